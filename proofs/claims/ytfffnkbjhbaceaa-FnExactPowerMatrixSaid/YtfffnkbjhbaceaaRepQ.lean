/- slices.Repeat of one square. -/
import Derived.Test.YtfffnkbjhbaceaaSqT
import Derived.Laws.CopyRow
import Derived.Deep.RegionHeld3
namespace Go.Proofs.Ytfffnkbjhbaceaa
set_option linter.unusedVariables false
open Go.RowKit

/-- the cells of squares -/
def qcs (L : List M4) : List Value := L.flatMap fun m => [.int .i64 m.a, .int .i64 m.b, .int .i64 m.c, .int .i64 m.d]
theorem qcs_nil : qcs [] = [] := rfl
theorem qcs_cons (m : M4) (L : List M4) : qcs (m :: L) = [.int .i64 m.a, .int .i64 m.b, .int .i64 m.c, .int .i64 m.d] ++ qcs L := by simp [qcs]
theorem qcs_append (a b : List M4) : qcs (a ++ b) = qcs a ++ qcs b := by simp [qcs]
theorem qcs_length (L : List M4) : (qcs L).length = L.length * 4 := by
  induction L with
  | nil => rfl
  | cons m L ih => rw [qcs_cons, List.length_append, ih, List.length_cons]; simp; omega
theorem qcs_get (L : List M4) : ∀ j, j < L.length → (qcs L)[j * 4]? = some (.int .i64 (L.getD j M4.one).a) ∧ (qcs L)[j * 4 + 1]? = some (.int .i64 (L.getD j M4.one).b) ∧ (qcs L)[j * 4 + 2]? = some (.int .i64 (L.getD j M4.one).c) ∧ (qcs L)[j * 4 + 3]? = some (.int .i64 (L.getD j M4.one).d) := by
  induction L with
  | nil => intro j hj; simp at hj
  | cons m L ih =>
    intro j hj
    cases j with
    | zero => rw [qcs_cons]; exact ⟨rfl, rfl, rfl, rfl⟩
    | succ j =>
      rw [qcs_cons]
      obtain ⟨h0, h1, h2, h3⟩ := ih j (by simpa using hj)
      have e : ∀ i, ([Value.int .i64 m.a, .int .i64 m.b, .int .i64 m.c, .int .i64 m.d] ++ qcs L)[(j + 1) * 4 + i]? = (qcs L)[j * 4 + i]? := by
        intro i
        rw [List.getElem?_append_right (by simp; omega)]
        congr 1
        simp
        omega
      exact ⟨(e 0).trans h0, (e 1).trans h1, (e 2).trans h2, (e 3).trans h3⟩
theorem qcs_one (L : List M4) : ∀ v ∈ qcs L, v.oneCell' = true := by
  intro v hv
  simp only [qcs, List.mem_flatMap] at hv
  obtain ⟨m, _, hv⟩ := hv
  simp at hv
  rcases hv with rfl | rfl | rfl | rfl <;> rfl
theorem qcs_splice (L : List M4) (d : Nat) (M : List M4) (h : d + M.length ≤ L.length) :
    (qcs L).take (d * 4) ++ qcs M ++ (qcs L).drop (d * 4 + (qcs M).length) = qcs (L.take d ++ M ++ L.drop (d + M.length)) := by
  have e : L = L.take d ++ ((L.drop d).take M.length ++ L.drop (d + M.length)) := by
    rw [← List.drop_drop, List.take_append_drop, List.take_append_drop]
  have h1 : (qcs (L.take d)).length = d * 4 := by rw [qcs_length, List.length_take]; congr 1; omega
  have h2 : (qcs ((L.drop d).take M.length)).length = (qcs M).length := by rw [qcs_length, qcs_length, List.length_take, List.length_drop]; congr 1; omega
  have e1 : qcs L = qcs (L.take d) ++ (qcs ((L.drop d).take M.length) ++ qcs (L.drop (d + M.length))) := by
    conv => lhs; rw [e]
    rw [qcs_append, qcs_append]
  rw [e1, qcs_append, qcs_append]
  congr 1
  · rw [← h1, List.take_left']
    rfl
  · rw [← h1, ← h2, ← List.drop_drop, List.drop_left, List.drop_left]
/-- d squares of n, zeros behind them -/
def repL (m : M4) (n d : Nat) : List M4 := List.replicate d m ++ List.replicate (n - d) M4.zero
theorem repL_length (m : M4) (n d : Nat) (h : d ≤ n) : (repL m n d).length = n := by simp [repL]; omega
theorem repL_all (m : M4) (n : Nat) : repL m n n = List.replicate n m := by simp [repL]
theorem repL_splice (m : M4) (n d k : Nat) (h : d + k ≤ n) : (repL m n d).take d ++ List.replicate k m ++ (repL m n d).drop (d + (List.replicate k m).length) = repL m n (d + k) := by
  unfold repL
  rw [List.take_left' (by simp), List.length_replicate, ← List.drop_drop, List.drop_left' (by simp), List.drop_replicate, List.replicate_append_replicate]
  congr 2
  omega

theorem run_copy_row4 {P : Program} (w : World) (dT sT ty elem : TypeId) (g o dLen dCap : Nat) (a : Addr) (sLen sCap m : Nat) (cur : Array Value) (t : TypeId) (cs : List Value)
    (hu : P.underlying dT = some (.slice elem)) (hs : (P.info? elem).map (·.size) = some 4)
    (hg : w.heap[g]? = some (.cells cur t (0, 0))) (hm : m = Nat.min sLen dLen) (hn : cs.length = m * 4)
    (hsrc : ∀ j v, cs[j]? = some v → w.cell? (a.add j) = some v) (hfit : o + cs.length ≤ cur.size) (h1 : ∀ v ∈ cs, v.oneCell' = true) :
    (Builtin.copy_ #[dT, sT] ty #[.slice (some ⟨g, o, none⟩) dLen dCap, .slice (some a) sLen sCap]).run P w =
      .ok (goInt m) (w.setRow g (cur.toList.take o ++ cs ++ cur.toList.drop (o + cs.length)).toArray) := by
  have hl := run_loadCells_list (P := P) w a cs hsrc
  have hst := run_storeCells_at P g o t cs 0 cur w hg (by simpa using hfit) h1
  cases hq : P.info? elem with
  | none => simp [hq] at hs
  | some i =>
    have hi : i.size = 4 := by simpa [hq] using hs
    subst hm
    simp [Builtin.copy_, run_underlying hu, Builtin.lenOf, Builtin.firstCells, sizeOf, typeInfo, hq, hi, ← hn, hl, hst]

/-- a block of squares -/
def BlQ (w : World) (g : Nat) (t : TypeId) (L : List M4) : Prop := w.heap[g]? = some (.cells (qcs L).toArray t (0, 0))
theorem BlQ.cell {w : World} {g : Nat} {t : TypeId} {L : List M4} (h : BlQ w g t L) (i : Nat) (v : Value) (hv : (qcs L)[i]? = some v) : w.cell? ⟨g, i, none⟩ = some v := by
  rw [cell_of_row w g i (qcs L).toArray t (0, 0) h]
  simpa using hv
theorem BlQ.slq {w : World} {g : Nat} {t : TypeId} {L : List M4} (h : BlQ w g t L) (hg : g < w.heap.size) : SlQ w w.heap.size (some ⟨g, 0, none⟩) L := fun _ => by
  refine ⟨g, 0, rfl, hg, fun j hj => ?_⟩
  obtain ⟨h0, h1, h2, h3⟩ := qcs_get L j hj
  rw [Nat.zero_add]
  exact ⟨h.cell _ _ h0, h.cell _ _ h1, h.cell _ _ h2, h.cell _ _ h3⟩
theorem wp_copyQ {o : Oper} {a : Act} {w : World} {K : Act → World → Prop} {Q : Exit → Act → World → Prop} (d s : Operand)
    (ho : o.op = .call { callee := .builtin .copy, args := #[d, s], argTypes := #[68, 68] })
    (sa : Addr) (dLen dCap sLen sCap : Nat) (g off : Nat) (hd : a.eval d = .slice (some ⟨g, off * 4, none⟩) dLen dCap) (hs : a.eval s = .slice (some sa) sLen sCap)
    (L : List M4) (t : TypeId) (hg : BlQ w g t L) (M : List M4) (hn : M.length = Nat.min sLen dLen)
    (hsrc : ∀ j v, (qcs M)[j]? = some v → w.cell? (sa.add j) = some v) (hfit : off + M.length ≤ L.length)
    (h : ∀ w', BlQ w' g t (L.take off ++ M ++ L.drop (off + M.length)) → w.grownBy w' (some g) → K (a.put o.dst (goInt M.length)) w') :
    Oper.wp Try.prog o a w K Q := by
  have hu : Try.prog.underlying 68 = some (.slice 54) := Try.underlying68
  have hsz : (Try.prog.info? 54).map (·.size) = some 4 := by kernel_rfl
  have hrun := run_copy_row4 (P := Try.prog) w 68 68 o.type 54 g (off * 4) dLen dCap sa sLen sCap M.length (qcs L).toArray t (qcs M) hu hsz hg hn (qcs_length M) hsrc
    (by simp [qcs_length]; omega) (qcs_one M)
  unfold Oper.wp
  simp [execOp, ho, resolve, invoke, builtin, hd, hs, hrun, Result.andThen]
  refine h _ ?_ ⟨rfl, rfl, rfl, by simp [World.setRow], fun k hk hne => setRow_other w g k _ (by intro e; exact hne (by rw [e]))⟩
  unfold BlQ
  rw [← qcs_splice L off M hfit]
  simpa using setRow_heap w g (qcs L).toArray _ t _ hg
theorem step_copyQ {ops : Array Oper} {o : Oper} {a : Act} {w : World} {K : Act → World → Prop} {Q : Exit → Act → World → Prop} {E : Prop} (hgd : o.guard = none) (d s : Operand)
    (ho : o.op = .call { callee := .builtin .copy, args := #[d, s], argTypes := #[68, 68] })
    (sa : Addr) (dLen dCap sLen sCap : Nat) (g off : Nat) (hd : a.eval d = .slice (some ⟨g, off * 4, none⟩) dLen dCap) (hs : a.eval s = .slice (some sa) sLen sCap)
    (L : List M4) (t : TypeId) (hg : BlQ w g t L) (M : List M4) (hn : M.length = Nat.min sLen dLen)
    (hsrc : ∀ j v, (qcs M)[j]? = some v → w.cell? (sa.add j) = some v) (hfit : off + M.length ≤ L.length)
    (h : ∀ w', BlQ w' g t (L.take off ++ M ++ L.drop (off + M.length)) → w.grownBy w' (some g) → K (a.put o.dst (goInt M.length)) w') :
    if Region.wanted o (yielded ops a.tmps) = true then Oper.wp Try.prog o a w K Q else E := by
  have hw : Region.wanted o (yielded ops a.tmps) = true := by simp [Region.wanted, hgd]
  rw [if_pos hw]
  exact wp_copyQ d s ho sa dLen dCap sLen sCap g off hd hs L t hg M hn hsrc hfit h
theorem wpList_copyQ {ops : Array Oper} {rest : List Oper} {o : Oper} {a : Act} {w : World} {Q : Exit → Act → World → Prop} (hgd : o.guard = none) (d s : Operand)
    (ho : o.op = .call { callee := .builtin .copy, args := #[d, s], argTypes := #[68, 68] })
    (sa : Addr) (dLen dCap sLen sCap : Nat) (g off : Nat) (hd : a.eval d = .slice (some ⟨g, off * 4, none⟩) dLen dCap) (hs : a.eval s = .slice (some sa) sLen sCap)
    (L : List M4) (t : TypeId) (hg : BlQ w g t L) (M : List M4) (hn : M.length = Nat.min sLen dLen)
    (hsrc : ∀ j v, (qcs M)[j]? = some v → w.cell? (sa.add j) = some v) (hfit : off + M.length ≤ L.length)
    (h : ∀ w', BlQ w' g t (L.take off ++ M ++ L.drop (off + M.length)) → w.grownBy w' (some g) → wpList Try.prog ops Q rest (a.put o.dst (goInt M.length)) w') :
    wpList Try.prog ops Q (o :: rest) a w :=
  wpList_plain hgd fun _ hK => wp_copyQ d s ho sa dLen dCap sLen sCap g off hd hs L t hg M hn hsrc hfit fun w' h1 h2 => hK _ _ (h w' h1 h2)
theorem BlQ.made {w : World} {base g n : Nat} (h : w.ownsRow base 54 4 (.slice (some ⟨g, 0, none⟩) n n) n (madeCells (Value.agg #[.int .i64 0, .int .i64 0, .int .i64 0, .int .i64 0]).cells (n * 4)).toList) : BlQ w g 54 (List.replicate n M4.zero) := by
  have hq := Qw.made h
  have e : (madeCells (Value.agg #[.int .i64 0, .int .i64 0, .int .i64 0, .int .i64 0]).cells (n * 4)).toList = qcs (List.replicate n M4.zero) := by
    apply List.ext_getElem?
    intro i
    have hl : (madeCells (Value.agg #[.int .i64 0, .int .i64 0, .int .i64 0, .int .i64 0]).cells (n * 4)).toList.length = n * 4 := h.1
    by_cases hi : i < n * 4
    · obtain ⟨k, r, hr, rfl⟩ : ∃ k r, r < 4 ∧ i = k * 4 + r := ⟨i / 4, i % 4, by omega, by omega⟩
      obtain ⟨h0, h1, h2, h3⟩ := qcs_get (List.replicate n M4.zero) k (by simp; omega)
      obtain ⟨c0, c1, c2, c3⟩ := hq.cell k (by omega)
      have hc := h.cellAt _ hi
      have h4 : r = 0 ∨ r = 1 ∨ r = 2 ∨ r = 3 := by omega
      rw [← hc]
      rcases h4 with rfl | rfl | rfl | rfl
      · exact c0.trans h0.symm
      · exact c1.trans h1.symm
      · exact c2.trans h2.symm
      · exact c3.trans h3.symm
    · rw [List.getElem?_eq_none (by omega), List.getElem?_eq_none (by rw [qcs_length]; simp; omega)]
  rcases h.2 with ⟨h', _⟩ | ⟨g', cap, cur, h', _, hh, _, _, hs, ht⟩
  · cases h'
  · cases h'
    have e2 : cur = (qcs (List.replicate n M4.zero)).toArray := by
      rw [← e, ← ht]
      apply Array.ext'
      rw [List.take_of_length_le]
      have hl := h.1
      simp at hs hl ⊢
      omega
    rw [e2] at hh
    exact hh

set_option maxRecDepth 100000 in
set_option maxHeartbeats 3200000 in
theorem bits_Mul20 (n : Nat) (hn : n ≤ 20) (w : World) : Calls Try.prog 71 #[.int .u64 1, .int .u64 n] w fun e w' => e = .returned (.tuple #[.int .u64 0, .int .u64 n]) ∧ w = w' := by
  have h : n = 0 ∨ n = 1 ∨ n = 2 ∨ n = 3 ∨ n = 4 ∨ n = 5 ∨ n = 6 ∨ n = 7 ∨ n = 8 ∨ n = 9 ∨ n = 10 ∨ n = 11 ∨ n = 12 ∨ n = 13 ∨ n = 14 ∨ n = 15 ∨ n = 16 ∨ n = 17 ∨ n = 18 ∨ n = 19 ∨ n = 20 := by omega
  rcases h with rfl | rfl | rfl | rfl | rfl | rfl | rfl | rfl | rfl | rfl | rfl | rfl | rfl | rfl | rfl | rfl | rfl | rfl | rfl | rfl | rfl
  all_goals go_enter Try.func71, Try.ntmps71
  all_goals go_wp2
  all_goals go_ret2
  all_goals exact ⟨rfl, rfl⟩

/-- a row of one square again and again -/
def GivQ (w : World) (m : M4) (n : Nat) (e : Ending) (w' : World) : Prop := ∃ g, e = .returned (.slice (some ⟨g, 0, none⟩) n n) ∧ SlQ w' w'.heap.size (some ⟨g, 0, none⟩) (List.replicate n m) ∧ Below w.heap.size w w'
set_option maxRecDepth 100000 in
set_option maxHeartbeats 3200000 in
theorem slices_RepeatQ (g n : Nat) (m : M4) (w : World) (h0 : Bx w g m.a m.b m.c m.d) (hn : n ≤ 20) :
    Calls Try.prog 61 #[.slice (some ⟨g, 0, none⟩) 1 1, .int .i64 n] w (GivQ w m n) := by
  have hgw : g < w.heap.size := h0.lt
  obtain ⟨i0', hii, hz0, hz1, hz3⟩ := info_parts infoQ
  have hbytes : i0'.bytes * n ≤ 281474976710656 := by rw [hz3]; omega
  have hmax : n ≤ maxLen := by unfold maxLen; omega
  have n0 : (0 : Int) ≤ (n : Int) := by omega
  have n1 : (n : Int) ≤ 20 := by omega
  have HX : Hid (∀ w', Below w.heap.size w w' → ∀ k, k ≤ 1 → ∀ j v, (qcs (List.replicate k m))[j]? = some v → w'.cell? ((⟨g, 0, none⟩ : Addr).add j) = some v) := Lib.hid (fun w' hb k hk j v hv => by
    obtain ⟨x0, x1, x2, x3⟩ := h0.kept hb
    rw [Addr.add_lit, Nat.zero_add]
    have hk2 : k = 0 ∨ k = 1 := by omega
    rcases hk2 with rfl | rfl
    · simp [qcs] at hv
    · have e : qcs (List.replicate 1 m) = [.int .i64 m.a, .int .i64 m.b, .int .i64 m.c, .int .i64 m.d] := rfl
      rw [e] at hv
      have hj : j = 0 ∨ j = 1 ∨ j = 2 ∨ j = 3 := by
        have := (List.getElem?_eq_some_iff.1 hv).1
        simp at this
        omega
      rcases hj with rfl | rfl | rfl | rfl <;> simp at hv <;> subst hv <;> assumption)
  clear h0
  go_enter Try.func61, Try.ntmps61
  go_wp2_with fail
  refine (bits_Mul20 n hn _).mono ?_
  rintro e w1 ⟨rfl, rfl⟩
  go_wp2_with (first
    | (at_make; refine wpList_make_full _ rfl _ _ _ rfl w.heap.size 54 i0' (.agg #[.int .i64 0, .int .i64 0, .int .i64 0, .int .i64 0]) 4 Try.underlying68 hii hz0 hz1 _ _ _ _ n rfl rfl rfl rfl hbytes hmax (Nat.le_refl _) ?_
       intro w3 hown3 hgrow3
       have hb3 : Below w.heap.size w w3 := (Below.refl _ _).grown hgrow3 (Nat.le_refl _) (fun _ e => by cases e)
       have hb30 : BlQ w3 w.heap.size 54 (repL m n 0) := by
         have := BlQ.made hown3
         simpa [repL] using this
       have HB3 := Lib.hid hb30
       have Hb3 := Lib.hid hb3
       have Hs3 : Hid (w.heap.size < w3.heap.size) := Lib.hid (hown3.lt w.heap.size rfl).2
       clear hown3 hgrow3 hb3 hb30)
    | (refine wpList_copyQ rfl (.tmp 31) (.tmp 32) rfl ⟨g, 0, none⟩ n n 1 1 w.heap.size 0 rfl rfl (repL m n 0) 54 HB3.out (List.replicate (min 1 n) m) (by rw [List.length_replicate]) (HX.out _ Hb3.out _ (Nat.min_le_left _ _)) (by rw [repL_length m n 0 (Nat.zero_le _), List.length_replicate]; omega) ?_
       intro w4 h4 g4
       rw [repL_splice m n 0 (min 1 n) (by omega), Nat.zero_add] at h4
       rw [List.length_replicate]
       have H4 : Hid (BlQ w4 w.heap.size 54 (repL m n (min 1 n))) := Lib.hid h4
       have Hb4 := Lib.hid (below_grown Hb3.out g4 (Nat.le_refl _) (fun k hk => by injection hk with hk; omega))
       have Hs4 : Hid (w.heap.size < w4.heap.size) := Lib.hid (Nat.lt_of_lt_of_le Hs3.out g4.size)
       clear h4 g4 HB3 Hb3 Hs3))
  clear hgw hii hz0 hz1 hz3 hbytes hmax HX
  go_loopw [8] (fun v wr => ∃ d : Nat, min 1 n ≤ d ∧ d ≤ n ∧ v = .int .i64 d ∧ BlQ wr w.heap.size 54 (repL m n d) ∧ Below w.heap.size w wr ∧ w.heap.size < wr.heap.size) (fun v _ => n - (intOf v).toNat)
  case atStart => exact ⟨min 1 n, Nat.le_refl _, Nat.min_le_right _ _, rfl, H4.out, Hb4.out, Hs4.out⟩
  case round =>
    clear H4 Hb4 Hs4
    obtain ⟨d, hd1, hdn, rfl, hblk, hb, hsz⟩ := hrel
    by_cases hlt : d < n
    · obtain ⟨k, hk⟩ : ∃ k, k = min d (n - d) := ⟨_, rfl⟩
      have hk1 : 1 ≤ k := by omega
      have HH := Lib.hid hblk
      have Hb := Lib.hid hb
      have Hm : Hid ((List.replicate k m).length = min d (n - d)) := Lib.hid (by rw [List.length_replicate, hk])
      have HC : Hid (∀ j v, (qcs (List.replicate k m))[j]? = some v → wr.drew.cell? ((⟨w.heap.size, 0, none⟩ : Addr).add j) = some v) := Lib.hid fun j v hv => by
        rw [Addr.add_lit, Nat.zero_add]
        have e : qcs (repL m n d) = qcs (List.replicate k m) ++ qcs (List.replicate (d - k) m ++ List.replicate (n - d) M4.zero) := by
          rw [← qcs_append, ← List.append_assoc, List.replicate_append_replicate, show k + (d - k) = d by omega]
          rfl
        refine BlQ.cell (w := wr.drew) hblk j v ?_
        rw [e, List.getElem?_append_left (List.getElem?_eq_some_iff.1 hv).1]
        exact hv
      have Hf : Hid (d + (List.replicate k m).length ≤ (repL m n d).length) := Lib.hid (by rw [repL_length m n d hdn, List.length_replicate]; omega)
      have Hsp := Lib.hid (repL_splice m n d k (by omega))
      have d0 : (0 : Int) ≤ (d : Int) := by omega
      have d1 : (d : Int) ≤ (n : Int) := by omega
      have d2 : (d : Int) < (n : Int) := by omega
      have hmd : d + k ≤ n := by omega
      have hnd : ¬ n = d := by omega
      have hmn : (k : Int) ≤ 20 := by omega
      have hmw : IntKind.i64.wrap ((d : Int) + (k : Int)) = (d : Int) + (k : Int) := IntWalk.i64_in _ (by omega)
      have hmm : k ≤ d := by omega
      have hkk : goInt (List.replicate k m).length = .int .i64 k := by rw [List.length_replicate]; rfl
      have Hkk := Lib.hid hkk
      clear hblk hb hk hkk hd1
      go_wp2
      go_region_held3 (fun w' => Below w.heap.size w w')
        (first
          | assumption
          | exact Hb.out.drew
          | exact hb5)
        (first
          | (refine step_copyQ rfl _ _ rfl ⟨w.heap.size, 0, none⟩ _ _ _ _ w.heap.size d (by simp [Act.eval, hnd]; rfl) (by simp [Act.eval]; rfl) (repL m n d) 54 HH.out (List.replicate k m) Hm.out HC.out Hf.out ?_
             intro w5 h5 g5
             rw [Hkk.out]
             have hb5 := below_grown Hb.out.drew g5 (Nat.le_refl _) (fun k hk => by injection hk with hk; omega)))
      rename_i hS5
      rw [Hsp.out] at h5
      have H5 : Hid (BlQ w5 w.heap.size 54 (repL m n (d + k))) := Lib.hid h5
      have HS5 := Lib.hid hS5
      have Hs5 := Lib.hid (show w.heap.size < w5.heap.size from Nat.lt_of_lt_of_le hsz g5.size)
      clear h5 g5 hS5 HH Hb Hm HC Hf Hsp hb5 hsz
      go_wp2
      go_roundw
      case rel => exact ⟨d + k, by omega, by omega, by go_num, H5.out, HS5.out, Hs5.out⟩
      case measure => simp [intOf]; omega
    · obtain rfl : d = n := by omega
      have hE : GivQ w m d (.returned (.slice (some ⟨w.heap.size, 0, none⟩) d d)) wr := by
        rw [repL_all] at hblk
        exact ⟨_, rfl, hblk.slq hsz, hb⟩
      have HE := Lib.hid hE
      clear hE hblk hb
      go_wp2
      go_ret
      exact HE.out
end Go.Proofs.Ytfffnkbjhbaceaa
