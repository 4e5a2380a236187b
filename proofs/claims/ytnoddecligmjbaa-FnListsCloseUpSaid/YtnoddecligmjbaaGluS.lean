/- The model's GlueEar. -/
import Derived.Test.YtnoddecligmjbaaIsQuiddityW
import Derived.Test.YtnoddecligmjbaaPutA
namespace Go.Proofs.Ytnoddecligmjbaa
set_option linter.unusedVariables false
open Go.RowKit

/-- an ear is to be glued behind the first p numbers -/
def gluP (q : List Int) (p : Nat) : List Int := q.take p ++ [1] ++ q.drop p
def gInc (l : List Int) (k : Nat) : List Int := l.set k (l.getD k 0 + 1)
def glueL (q : List Int) (t : Nat) : List Int := gInc (gInc (gluP q (t + 1)) t) ((t + 2) % (q.length + 1))
def okG (q : List Int) (i : Int) : Bool := isQ q && !decide (q.length = 12) && inB i 1 (q.length : Int)
def glueR (q : List Int) (i : Int) : List Int := if okG q i = true then glueL q (i - 1).toNat else []
theorem okG_iff {q : List Int} {i : Int} : okG q i = true ↔ isQ q = true ∧ q.length ≠ 12 ∧ 1 ≤ i ∧ i ≤ (q.length : Int) := by
  unfold okG inB
  simp [and_assoc]
theorem gluP_length (q : List Int) (p : Nat) (h : p ≤ q.length) : (gluP q p).length = q.length + 1 := by simp [gluP]; omega
theorem gInc_length (l : List Int) (k : Nat) : (gInc l k).length = l.length := by simp [gInc]
theorem glueL_length (q : List Int) (t : Nat) (h : t + 1 ≤ q.length) : (glueL q t).length = q.length + 1 := by
  unfold glueL
  rw [gInc_length, gInc_length, gluP_length q _ h]
theorem glueR_length (q : List Int) (i : Int) : (glueR q i).length ≤ 1000000000 := by
  unfold glueR
  split
  · rename_i h
    obtain ⟨hq, h12, h0, h1⟩ := okG_iff.1 h
    have := isQ_len hq
    rw [glueL_length q _ (by omega)]
    omega
  · simp
theorem retG_no {q : List Int} {i : Int} {w w' : World} (h : okG q i = false) (hb : Below w.heap.size w w') : RetI w (glueR q i) (okG q i) (.returned (.tuple #[.slice none 0 0, .bool false])) w' := by
  unfold glueR
  rw [h]
  exact ⟨none, 0, rfl, World.ownsRow_nil _ _ _ _, hb⟩
theorem gluP_bd {q : List Int} {p : Nat} (h : ∀ i, i < q.length → 1 ≤ q.getD i 0 ∧ q.getD i 0 ≤ 12) (j : Nat) (hj : j < (gluP q p).length) : 1 ≤ (gluP q p).getD j 0 ∧ (gluP q p).getD j 0 ≤ 12 := by
  have hm : ∀ x ∈ q, 1 ≤ x ∧ x ≤ 12 := fun x hx => by
    obtain ⟨i, hi, rfl⟩ := List.mem_iff_getElem.1 hx
    have := h i hi
    simpa [hi] using this
  have e : (gluP q p).getD j 0 = (gluP q p)[j] := by simp [hj]
  rw [e]
  have hx : (gluP q p)[j] ∈ gluP q p := List.getElem_mem hj
  generalize (gluP q p)[j] = x at *
  unfold gluP at hx
  rw [List.mem_append, List.mem_append] at hx
  rcases hx with (hx | hx) | hx
  · exact hm x (List.mem_of_mem_take hx)
  · simp at hx; omega
  · exact hm x (List.mem_of_mem_drop hx)
theorem glue_cells {w4 : World} {base c4 n : Nat} {A4 : Option Addr} {L : List Int} (own4 : w4.ownsRow base 3 1 (.slice A4 (n + 1) c4) (n + 1) (ics L)) (hL : L.length = n + 1) (t b : Nat) (ht : t < n + 1) (hb : b < n + 1) :
    ∃ gl, A4 = some ⟨gl, 0, none⟩ ∧ (w4.cell? ⟨gl, t, none⟩ = some (.int .i64 (L.getD t 0)) ∧ w4.frozen? ⟨gl, t, none⟩ = false) ∧
      ((w4.setCell ⟨gl, t, none⟩ (.int .i64 (L.getD t 0 + 1))).cell? ⟨gl, b, none⟩ = some (.int .i64 ((gInc L t).getD b 0)) ∧ (w4.setCell ⟨gl, t, none⟩ (.int .i64 (L.getD t 0 + 1))).frozen? ⟨gl, b, none⟩ = false) ∧
      ((w4.setCell ⟨gl, t, none⟩ (.int .i64 (L.getD t 0 + 1))).setCell ⟨gl, b, none⟩ (.int .i64 ((gInc L t).getD b 0 + 1))).ownsRow base 3 1 (.slice A4 (n + 1) c4) (n + 1) (ics (gInc (gInc L t) b)) ∧
      w4.grownBy ((w4.setCell ⟨gl, t, none⟩ (.int .i64 (L.getD t 0 + 1))).setCell ⟨gl, b, none⟩ (.int .i64 ((gInc L t).getD b 0 + 1))) (some gl) ∧ base ≤ gl := by
  obtain ⟨gl, cap0, hv, hgl, _⟩ := own4.form (by omega)
  cases hv
  obtain ⟨h1, h2⟩ := own4.stored t (.int .i64 (L.getD t 0 + 1))
  rw [ics_set, show L.set t (L.getD t 0 + 1) = gInc L t from rfl] at h1
  obtain ⟨h3, h4⟩ := h1.stored b (.int .i64 ((gInc L t).getD b 0 + 1))
  rw [ics_set, show (gInc L t).set b ((gInc L t).getD b 0 + 1) = gInc (gInc L t) b from rfl] at h3
  exact ⟨gl, rfl, ⟨by rw [own4.cellAt t (by omega), ics_get _ _ (by omega)], own4.frozenAt t⟩, ⟨by rw [h1.cellAt b (by omega), ics_get _ _ (by rw [gInc_length]; omega)], h1.frozenAt b⟩, h3, h2.trans h4, hgl⟩
theorem gInc_bd {L : List Int} (h : ∀ j, j < L.length → 1 ≤ L.getD j 0 ∧ L.getD j 0 ≤ 12) (t b : Nat) (hb : b < L.length) : 1 ≤ (gInc L t).getD b 0 ∧ (gInc L t).getD b 0 ≤ 13 := by
  unfold gInc
  simp only [List.getD_eq_getElem?_getD, List.getElem?_set]
  have h1 := h b hb
  simp only [List.getD_eq_getElem?_getD] at h1
  split
  · rename_i e
    subst e
    rw [if_pos hb]
    show 1 ≤ L[t]?.getD 0 + 1 ∧ L[t]?.getD 0 + 1 ≤ 13
    omega
  · omega

set_option maxRecDepth 100000 in
set_option maxHeartbeats 6400000 in
theorem spec_GlueEar (A : Option Addr) (c B : Nat) (q : List Int) (i : Int) (w : World) (h : SlI w B A q) (hB : B ≤ w.heap.size) (hl : q.length ≤ 1048576) (hlc : q.length ≤ c) :
    Calls Try.prog 110 #[.slice A q.length c, .int .i64 i] w (RetI w (glueR q i) (okG q i)) := by
  go_enter Try.func110, Try.ntmps110
  go_wp2_with fail
  refine (spec_IsQuiddity A c B q _ h hB hl hlc).mono ?_
  rintro e w1 ⟨rfl, hb1⟩
  cases hq : isQ q
  · have hres := retG_no (q := q) (i := i) (by rw [Bool.eq_false_iff]; intro e; rw [(okG_iff.1 e).1] at hq; cases hq) hb1
    have Hres := Lib.hid hres
    clear hres h hb1
    go_wp2
    go_ret2
    exact Hres.out
  · obtain ⟨hn3, hn12⟩ := isQ_len hq
    by_cases h12 : (q.length : Int) = 12
    · have hres := retG_no (q := q) (i := i) (by rw [Bool.eq_false_iff]; intro e; have := (okG_iff.1 e).2.1; omega) hb1
      have Hres := Lib.hid hres
      clear hres h hb1
      go_wp2
      go_ret2
      exact Hres.out
    · have n0 : (3 : Int) ≤ (q.length : Int) := by omega
      have n1 : (q.length : Int) ≤ 11 := by omega
      go_wp2_with fail
      refine (spec_l1In' _ _ _ _).mono ?_
      rintro e w2 ⟨rfl, rfl⟩
      cases hi : inB i 1 (q.length : Int)
      · have hres := retG_no (q := q) (i := i) (by rw [Bool.eq_false_iff]; intro e; obtain ⟨_, _, h1, h2⟩ := okG_iff.1 e; unfold inB at hi; simp at hi; omega) hb1
        have Hres := Lib.hid hres
        clear hres h hb1
        go_wp2
        go_ret2
        exact Hres.out
      · have hi2 : 1 ≤ i ∧ i ≤ (q.length : Int) := by unfold inB at hi; simpa using hi
        obtain ⟨i0, i1⟩ := hi2
        obtain ⟨t, rfl⟩ : ∃ t : Nat, i = (t : Int) + 1 := ⟨(i - 1).toNat, by omega⟩
        have hok : okG q ((t : Int) + 1) = true := okG_iff.2 ⟨hq, by omega, i0, i1⟩
        have Hfin : Hid (∀ e w', RetI w (glueL q t) true e w' → RetI w (glueR q ((t : Int) + 1)) (okG q ((t : Int) + 1)) e w') := Lib.hid fun e w' hh => by
          unfold glueR
          rw [hok, if_pos rfl, show ((t : Int) + 1 - 1).toNat = t by omega]
          exact hh
        have hs := h.below (hb1.mono hB)
        obtain ⟨b', off, rfl, hbB, hc⟩ := hs (by omega)
        have Hw0 := Lib.hid h
        have Hs := Lib.hid hs
        have Hb1 := Lib.hid hb1
        have Hget : Hid (∀ i, i < q.length → 1 ≤ q.getD i 0 ∧ q.getD i 0 ≤ 12) := Lib.hid fun i hi => by have := isQ_get hq i hi; omega
        obtain ⟨n, hn⟩ : ∃ n, q.length = n := ⟨_, rfl⟩
        have Hn := Lib.hid hn
        rw [hn] at n0 n1 hn3 i1 hlc ⊢
        have t1 : t + 1 ≤ n := by omega
        have Hlt : Hid ((q.take (t + 1)).length = t + 1) := Lib.hid (by rw [List.length_take, hn]; omega)
        have Hld : Hid ((q.drop (t + 1)).length = n - (t + 1)) := Lib.hid (by rw [List.length_drop, hn])
        have Hlc : Hid (q.length ≤ c) := Lib.hid (by omega)
        have z0 : (0 : Int) ≤ (t : Int) + 1 := by omega
        have z1 : (t : Int) + 1 ≤ (c : Int) := by omega
        have z2 : (n : Int) ≤ (c : Int) := by omega
        have hpn : ((t : Int) + 1).toNat = t + 1 := by omega
        clear hok hc h hs hb1 hq hi hn h12 hl hn12
        go_wp2_with fail
        refine (spec_l1Own_n (some ⟨b', off, none⟩) (t + 1) c B (q.take (t + 1)) _ Hlt.out (Hs.out.take (t + 1)) (Nat.le_trans hB Hb1.out.size) (by omega)).mono ?_
        rintro e w2 ⟨A2, c2, rfl, o2, b2⟩
        have hw0 : w.heap.size ≤ w1.heap.size := Hb1.out.size
        have hb2 := below_kept Hb1.out (Nat.le_refl _) b2
        have own2 := (o2.mono hw0).alloc (.cells #[.int .i64 1] 3)
        have hsz2 := hb2.size
        have Hb2 := Lib.hid (hb2.alloc hsz2 (.cells #[.int .i64 1] 3))
        have Hlw : Hid (∀ k, (Value.slice A2 (t + 1) c2).ownBlock = some k → w.heap.size ≤ k) := Lib.hid fun k hk => ((o2.mono hw0).lt k hk).1
        have t6 : t + 1 ≤ 1000000 := by omega
        have Hl1 : Hid ((q.take (t + 1) ++ [(1 : Int)]).length = t + 1 + 1) := Lib.hid (by rw [List.length_append, Hlt.out]; rfl)
        have HN1 : Hid (n + 1 = t + 1 + 1 + (n - (t + 1))) := Lib.hid (by omega)
        have Hgl : Hid ((gluP q (t + 1)).length = n + 1) := Lib.hid (by rw [gluP_length q _ (by rw [Hn.out]; exact t1), Hn.out])
        have Hbd : Hid (∀ j, j < (gluP q (t + 1)).length → 1 ≤ (gluP q (t + 1)).getD j 0 ∧ (gluP q (t + 1)).getD j 0 ≤ 12) := Lib.hid fun j hj => gluP_bd Hget.out j hj
        obtain ⟨b, hbdef⟩ : ∃ b, b = (t + 2) % (n + 1) := ⟨_, rfl⟩
        have hbn : b < n + 1 := by rw [hbdef]; exact Nat.mod_lt _ (by omega)
        have hrem : ((t : Int) + 1 + 1) % ((n : Int) + 1) = (b : Int) := by
          rw [hbdef, show (t : Int) + 1 + 1 = ((t + 2 : Nat) : Int) by omega, show (n : Int) + 1 = ((n + 1 : Nat) : Int) by omega]
          rfl
        have HGL : Hid (glueL q t = gInc (gInc (gluP q (t + 1)) t) b) := Lib.hid (by unfold glueL; rw [Hn.out, hbdef])
        have t0 : (0 : Int) ≤ (t : Int) := by omega
        have t2 : (t : Int) < (n : Int) + 1 := by omega
        have bb0 : (0 : Int) ≤ (b : Int) := by omega
        have bb1 : (b : Int) < (n : Int) + 1 := by omega
        have t7 : t + 1 + 1 ≤ 1000000 := by omega
        have t8 : n - (t + 1) ≤ 1000000 := by omega
        have t9 : t < n + 1 := by omega
        have Hbdef := Lib.hid hbdef
        clear o2 b2 hb2 z0 z1 hbdef
        rcases Nat.lt_or_ge (t + 1) c with kc | kc
        · have kc2 : ¬ c = t + 1 := by omega
          go_wp2_with (first
            | (at_builtin; refine append1In _ rfl (.tmp 26) (.tmp 27) rfl w.heap.size (.slice A2 (t + 1) c2) (t + 1) (q.take (t + 1)) Hlt.out rfl own2 w2.heap.size 1 rfl ?c1 t6 Hb2.out.size ?_; (case c1 => simp [go_sem])
               intro A3 c3 w3 own3 hg3
               have Own3 := Lib.hid own3
               have Hb3 := Lib.hid (below_grown Hb2.out hg3 (Nat.le_refl _) (fun k hk => Hlw.out k hk))
               clear own2 own3 hg3)
            | (at_builtin; refine wpList_appendNI _ rfl (.tmp 29) (.tmp 32) rfl w.heap.size (.slice A3 (t + 1 + 1) c3) (t + 1 + 1) (q.take (t + 1) ++ [1]) Hl1.out rfl Own3.out _ (n - (t + 1)) _ (q.drop (t + 1)) B (n + 1) HN1.out rfl Hld.out ?_ t7 t8 Hb3.out.size ?_
               · first
                 | exact (Hw0.out.below (Hb3.out.mono hB)).cutAt (t + 1)
                 | exact fun h0 => absurd h0 (by rw [Hld.out]; omega)
               intro A4 c4 w4 own4 hg4
               have hb4 := below_grown Hb3.out hg4 (Nat.le_refl _) (fun k hk => (Own3.out.lt k hk).1)
               obtain ⟨gl, rfl, ⟨ca, fa⟩, ⟨cb, fb⟩, o6, g6, hgl⟩ := glue_cells (L := gluP q (t + 1)) own4 Hgl.out t b t9 hbn
               have hb6 := below_grown hb4 g6 (Nat.le_refl _) (fun k hk => by injection hk with hk; omega)
               obtain ⟨x1, x2⟩ := Hbd.out t (by rw [Hgl.out]; exact t9)
               obtain ⟨y1, y2⟩ := gInc_bd Hbd.out t b (by rw [Hgl.out]; exact hbn)
               have hE := Hfin.out (.returned (.tuple #[.slice (some ⟨gl, 0, none⟩) (n + 1) c4, .bool true])) _ ⟨some ⟨gl, 0, none⟩, c4, by rw [HGL.out, gInc_length, gInc_length, Hgl.out], by rw [HGL.out, gInc_length, gInc_length, Hgl.out]; exact o6, hb6⟩
               have HE := Lib.hid hE
               clear hE o6 g6 hb6 hb4 own4 hg4 Own3 hgl
               generalize (gInc (gluP q (t + 1)) t).getD b 0 = y at *
               generalize (gluP q (t + 1)).getD t 0 = x at *))
          go_ret2
          exact HE.out
        · have Hnl : Hid (∀ w3, SlI w3 B (some ⟨b', off, none⟩) (q.drop (t + 1))) := Lib.hid fun w3 h0 => absurd h0 (by rw [Hld.out]; omega)
          have HN0 : Hid (n + 1 = t + 1 + 1 + 0) := Lib.hid (by omega)
          have Hld0 : Hid ((q.drop (t + 1)).length = 0) := Lib.hid (by rw [Hld.out]; omega)
          have t80 : 0 ≤ 1000000 := by omega
          obtain rfl : c = t + 1 := by omega
          go_wp2_with (first
            | (at_builtin; refine append1In _ rfl (.tmp 26) (.tmp 27) rfl w.heap.size (.slice A2 (t + 1) c2) (t + 1) (q.take (t + 1)) Hlt.out rfl own2 w2.heap.size 1 rfl ?c1 t6 Hb2.out.size ?_; (case c1 => simp [go_sem])
               intro A3 c3 w3 own3 hg3
               have Own3 := Lib.hid own3
               have Hb3 := Lib.hid (below_grown Hb2.out hg3 (Nat.le_refl _) (fun k hk => Hlw.out k hk))
               clear own2 own3 hg3)
            | (at_builtin; refine wpList_appendNI _ rfl (.tmp 29) (.tmp 32) rfl w.heap.size (.slice A3 (t + 1 + 1) c3) (t + 1 + 1) (q.take (t + 1) ++ [1]) Hl1.out rfl Own3.out _ 0 _ (q.drop (t + 1)) B (n + 1) HN0.out rfl Hld0.out ?_ t7 t80 Hb3.out.size ?_
               · exact Hnl.out _
               intro A4 c4 w4 own4 hg4
               have hb4 := below_grown Hb3.out hg4 (Nat.le_refl _) (fun k hk => (Own3.out.lt k hk).1)
               obtain ⟨gl, rfl, ⟨ca, fa⟩, ⟨cb, fb⟩, o6, g6, hgl⟩ := glue_cells (L := gluP q (t + 1)) own4 Hgl.out t b t9 hbn
               have hb6 := below_grown hb4 g6 (Nat.le_refl _) (fun k hk => by injection hk with hk; omega)
               obtain ⟨x1, x2⟩ := Hbd.out t (by rw [Hgl.out]; exact t9)
               obtain ⟨y1, y2⟩ := gInc_bd Hbd.out t b (by rw [Hgl.out]; exact hbn)
               have hE := Hfin.out (.returned (.tuple #[.slice (some ⟨gl, 0, none⟩) (n + 1) c4, .bool true])) _ ⟨some ⟨gl, 0, none⟩, c4, by rw [HGL.out, gInc_length, gInc_length, Hgl.out], by rw [HGL.out, gInc_length, gInc_length, Hgl.out]; exact o6, hb6⟩
               have HE := Lib.hid hE
               clear hE o6 g6 hb6 hb4 own4 hg4 Own3 hgl
               generalize (gInc (gluP q (t + 1)) t).getD b 0 = y at *
               generalize (gluP q (t + 1)).getD t 0 = x at *))
          go_ret2
          exact HE.out
end Go.Proofs.Ytnoddecligmjbaa
