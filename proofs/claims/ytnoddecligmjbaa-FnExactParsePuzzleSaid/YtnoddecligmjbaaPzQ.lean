/- ParsePuzzle: the model's contract, and the law's walk. -/
import Derived.Test.YtnoddecligmjbaaPzP
import Derived.Test.YtnoddecligmjbaaPutA
import Derived.Test.YtnoddecligmjbaaApp
import Derived.Test.YtnoddecligmjbaaParsePuzzleC
import Derived.Deep.RegionLaw
namespace Go.Proofs.Ytnoddecligmjbaa
set_option linter.unusedVariables false
open Go.RowKit

theorem psL_take (s : ByteArray) (k : Nat) (h : k < s.size) : (psL s).take (k + 1) = (psL s).take k ++ [dS (s[k]'h)] := by
  have h2 : k < (psL s).length := by rw [psL_length]; exact h
  have h3 := psL_get s k h
  rw [List.take_succ_eq_append_getElem h2]
  rw [List.getD_eq_getElem?_getD, List.getElem?_eq_getElem h2] at h3
  simp at h3
  rw [h3]

theorem vB_no {b : UInt8} (h : vB b = false) : ((b.toNat : Int) == 46) = false ∧ ((b.toNat : Int) < 49 ∨ (49 ≤ (b.toNat : Int) ∧ 57 < (b.toNat : Int))) := by
  unfold vB at h
  rw [Bool.or_eq_false_iff] at h
  obtain ⟨h1, h2⟩ := h
  have h3 : b.toNat ≠ 46 := fun e => by
    have : b = 46 := UInt8.toNat_inj.1 e
    rw [this] at h1
    simp at h1
  simp at h2
  refine ⟨by simp; omega, by omega⟩
theorem vB_yes {b : UInt8} (h : vB b = true) : (((b.toNat : Int) == 46) = true ∧ dS b = 0) ∨ (((b.toNat : Int) == 46) = false ∧ 49 ≤ (b.toNat : Int) ∧ (b.toNat : Int) ≤ 57 ∧ dS b = (b.toNat : Int) - 48) := by
  unfold vB at h
  rw [Bool.or_eq_true] at h
  by_cases h1 : b = 46
  · left
    subst h1
    exact ⟨by decide, by decide⟩
  · right
    have h3 : b.toNat ≠ 46 := fun e => h1 (UInt8.toNat_inj.1 e)
    rcases h with h | h
    · simp at h; exact absurd h h1
    · simp at h
      refine ⟨by simp; omega, by omega, by omega, ?_⟩
      unfold dS
      rw [if_neg h1]

/-- what holds at the head of the loop: the result's box, the puzzle's box, the numbers read so far -/
def PsI (w : World) (s : ByteArray) (k : Nat) (A : Option Addr) (c : Nat) (wr : World) : Prop :=
  wr.ownsRow (w.heap.size + 2) 3 1 (.slice A k c) k (ics ((psL s).take k)) ∧ Bo wr (w.heap.size + 1) (.slice A k c) 27 ∧ Bo wr w.heap.size (.slice none 0 0) 27 ∧ Below w.heap.size w wr ∧ w.heap.size + 2 ≤ wr.heap.size
/-- a number put behind them: the world behind the append, and behind the store into the box -/
theorem PsI.push {w wr wa w3 : World} {s : ByteArray} {k : Nat} {A : Option Addr} {c : Nat} (h : PsI w s k A c wr) (hk : k < s.size) (hba : Below wr.heap.size wr wa) {A3 : Option Addr} {c3 : Nat}
    (o3 : w3.ownsRow (w.heap.size + 2) 3 1 (.slice A3 (k + 1) c3) (k + 1) (ics ((psL s).take k ++ [dS (s[k]'hk)]))) (g3 : wa.grownBy w3 (Value.slice A k c).ownBlock) :
    (w3.cell? ⟨w.heap.size + 1, 0, none⟩ = some (.slice A k c) ∧ w3.frozen? ⟨w.heap.size + 1, 0, none⟩ = false) ∧ PsI w s (k + 1) A3 c3 (w3.setCell ⟨w.heap.size + 1, 0, none⟩ (.slice A3 (k + 1) c3)) := by
  obtain ⟨ho, q4, q3, hb, hz⟩ := h
  have oa := own_kept ho hba
  have p4 := q4.kept hba
  have p3 := q3.kept hba
  have r4 := p4.far g3 (bo_ne p4 oa (by decide))
  have r3 := p3.far g3 (bo_ne p3 oa (by decide))
  have b3 : Below w.heap.size w w3 := below_grown (below_kept hb (Nat.le_refl _) hba) g3 (Nat.le_refl _) (fun j hj => by have := (oa.lt j hj).1; omega)
  refine ⟨⟨r4.cell, r4.frozen⟩, ?_, r4.set _, r3.setFar (by simp) _, b3.setCell (p := ⟨w.heap.size + 1, 0, none⟩) (Nat.le_succ _) _, ?_⟩
  · rw [psL_take s k hk]
    exact ownsRow_setCell_below o3 (a := ⟨w.heap.size + 1, 0, none⟩) (Nat.lt_succ_self _) _
  · have h1 := Nat.le_trans hba.size g3.size
    have h2 : (w3.setCell ⟨w.heap.size + 1, 0, none⟩ (.slice A3 (k + 1) c3)).heap.size = w3.heap.size := by simp
    omega
theorem PsI.drewN {w wr : World} {s : ByteArray} {k : Nat} {A : Option Addr} {c : Nat} (h : PsI w s k A c wr) : PsI w s k A c wr.drew := ⟨h.1, h.2.1, h.2.2.1, h.2.2.2.1.drew, h.2.2.2.2⟩

set_option maxRecDepth 100000 in
set_option maxHeartbeats 6400000 in
theorem spec_ParsePuzzle (s : ByteArray) (w : World) : Calls Try.prog 38 #[.string s] w (ParE s w) := by
  obtain ⟨w2, hw2⟩ : ∃ w2, w2 = (w.alloc (.cells #[.slice none 0 0] 27)).alloc (.cells #[.slice none 0 0] 27) := ⟨_, rfl⟩
  obtain ⟨hd, q3, q4⟩ := box_two w (.slice none 0 0) (.slice none 0 0) 27 27
  rw [← hw2] at hd q3 q4
  have hz2 : w2.heap.size = w.heap.size + 2 := by rw [hw2]; simp
  have Hw2 := Lib.hid hw2
  have c8 := Lib.hid (q3.set (.slice none 0 0)).cell
  clear hw2
  by_cases h9 : s.size ≤ 9
  · obtain ⟨n, hn⟩ : ∃ n, s.size = n := ⟨_, rfl⟩
    have HI : Hid (PsI w s 0 none 0 w2) := Lib.hid ⟨World.ownsRow_nil _ _ _ _, q4, q3, hd, by omega⟩
    have HNo : Hid (pzB (ppL s) = false → ∀ w5, Below w.heap.size w w5 → ParE s w (.returned (.tuple #[.agg #[.slice none 0 0], .bool false])) w5) := Lib.hid fun e w5 hb => parE_no e (retP_nil hb)
    have n9 : n ≤ 9 := by omega
    have n9' : (n : Int) ≤ 9 := by omega
    have Hsame := Lib.hid (pp_same s)
    have Hpl := Lib.hid (psL_length s)
    clear h9 q3 q4 hd c8
    go_enter Try.func38, Try.ntmps38
    go_wp2
    rw [← Hw2.out]
    clear Hw2
    go_loopw [5, 17, 27] (fun i _ _ wr => ∃ (k : Nat) (A : Option Addr) (c : Nat), k ≤ n ∧ i = .int .i64 k ∧ (∀ j (h : j < s.size), j < k → vB (s[j]'h) = true) ∧ PsI w s k A c wr) (fun i _ _ _ => n - (intOf i).toNat)
    case atStart => exact ⟨0, none, 0, Nat.zero_le _, rfl, fun j h hj => absurd hj (Nat.not_lt_zero _), HI.out⟩
    case round =>
      clear HI
      obtain ⟨k, A, c, hk, rfl, hall, hps⟩ := hrel
      by_cases hlt : k < n
      · have hks : k < s.size := by rw [hn]; exact hlt
        have i0 : (0 : Int) ≤ (k : Int) := by omega
        have i1 : (k : Int) < (n : Int) := by omega
        have c4 := hps.2.1.cell
        have f4 := hps.2.1.frozen
        have y4 := hps.2.1.lt
        have hz := hps.2.2.2.2
        have hy := (s[k]'hks).toNat_lt
        have HP := Lib.hid hps
        have Hall := Lib.hid hall
        have H1 := Lib.hid hps.1
        have HL : Hid (((psL s).take k).length = k) := Lib.hid (by have := Hpl.out; simp; omega)
        have hba := (Below.refl wr.heap.size wr).alloc (Nat.le_refl _) (.cells #[.int .i64 (dS (s[k]'hks))] 3)
        have Hba := Lib.hid hba
        cases hv : vB (s[k]'hks)
        · have hbad := Lib.hid (HNo.out (ppL_bad s k hks hv) _ (hps.2.2.2.1.setCell (p := ⟨w.heap.size, 0, none⟩) (Nat.le_refl _) (.slice none 0 0)))
          have c8 := (hps.2.2.1.set (.slice none 0 0)).cell
          have c3 := hps.2.2.1.cell
          have f3 := hps.2.2.1.frozen
          obtain ⟨v1, v2⟩ := vB_no hv
          clear hps hall hba HP H1 HL Hba hv HNo Hsame Hall
          rcases v2 with v2 | ⟨v2, v3⟩
          all_goals
            have v4 : ¬ (49 ≤ ((s[k]'hks).toNat : Int) ∧ ((s[k]'hks).toNat : Int) ≤ 57) := by omega
            go_wp2
            exact bodyPost_ret (v := .tuple #[.agg #[.slice none 0 0], .bool false]) (by simp [results, Try.results38, go_sem, c8]) rfl hbad.out
        · have hall2 : ∀ j (h : j < s.size), j < k + 1 → vB (s[j]'h) = true := fun j h hj => by
            rcases Nat.lt_or_ge j k with h1 | h1
            · exact hall j h h1
            · obtain rfl : j = k := by omega
              exact hv
          have Hall2 := Lib.hid hall2
          rcases vB_yes hv with ⟨v1, v2⟩ | ⟨v1, v2, v3, v4⟩
          · have own2 := H1.out.alloc (.cells #[.int .i64 0] 3)
            have own3 : (wr.alloc (.cells #[.int .i64 0] 3)).ownsRow (w.heap.size + 2) 3 1 (.slice A ((psL s).take k).length c) ((psL s).take k).length (ics ((psL s).take k)) := by rw [HL.out]; exact own2
            have hlen1 := Lib.hid HL.out
            clear hps hall hba hv hall2 own2
            go_wp2_with (at_builtin; refine append1In _ rfl _ _ rfl (w.heap.size + 2) (.slice A k c) k ((psL s).take k) HL.out rfl (H1.out.alloc _) wr.heap.size 0 rfl ?c1 ?c2 ?c3 ?_; (case c1 => simp [go_sem]); (case c2 => omega); (case c3 => simp; omega); intro A3 c3 w3 own4 hg3; (obtain ⟨⟨d4, e4⟩, hn3⟩ := HP.out.push hks ((Below.refl wr.heap.size wr).alloc (Nat.le_refl _) _) (by rw [v2]; exact own4) hg3))
            have HN3 := Lib.hid hn3
            clear hn3 own4 hg3 own3
            go_wp2
            go_roundw
            case rel => exact ⟨k + 1, A3, c3, by omega, by go_num, Hall2.out, HN3.out⟩
            case measure => simp [intOf]; omega
          · have hw8 : IntKind.u8.wrap (((s[k]'hks).toNat : Int) - 48) = ((s[k]'hks).toNat : Int) - 48 := by unfold IntKind.wrap; simp [IntKind.bits, IntKind.signed]; omega
            have hw64 : IntKind.i64.wrap (((s[k]'hks).toNat : Int) - 48) = ((s[k]'hks).toNat : Int) - 48 := IntWalk.i64_in _ (by omega)
            have HS : Hid (SlI (wr.alloc (.cells #[.int .i64 (((s[k]'hks).toNat : Int) - 48)] 3)) (wr.heap.size + 1) (some ⟨wr.heap.size, 0, none⟩) [((s[k]'hks).toNat : Int) - 48]) := Lib.hid (SlI.cell1 (by simp [go_sem]) (by omega))
            have HO : Hid ((wr.alloc (.cells #[.int .i64 (((s[k]'hks).toNat : Int) - 48)] 3)).ownsRow (w.heap.size + 2) 3 1 (.slice A k c) k (ics ((psL s).take k))) := Lib.hid (H1.out.alloc _)
            have HN : Hid (∀ A7 c7 w7, w7.ownsRow (w.heap.size + 2) 3 1 (.slice A7 (k + 1) c7) (k + 1) (ics ((psL s).take k ++ [((s[k]'hks).toNat : Int) - 48])) → (wr.alloc (.cells #[.int .i64 (((s[k]'hks).toNat : Int) - 48)] 3)).drew.grownBy w7 (Value.slice A k c).ownBlock → (w7.cell? ⟨w.heap.size + 1, 0, none⟩ = some (.slice A k c) ∧ w7.frozen? ⟨w.heap.size + 1, 0, none⟩ = false) ∧ PsI w s (k + 1) A7 c7 (w7.setCell ⟨w.heap.size + 1, 0, none⟩ (.slice A7 (k + 1) c7))) :=
              Lib.hid fun A7 c7 w7 o7 g7 => HP.out.push hks ((Below.refl wr.heap.size wr).alloc (Nat.le_refl _) _).drew (by rw [v4]; exact o7) g7
            have hbs : w.heap.size + 2 ≤ wr.heap.size + 1 := by omega
            have k6 : k ≤ 1000000 := by omega
            clear hps hall hba hv hall2 v4
            go_wp2
            go_region_law (first
              | (refine step_appendNI ((wr.alloc (.cells #[.int .i64 (((s[k]'hks).toNat : Int) - 48)] 3)).drew) rfl (.tmp 39) (.tmp 45) rfl (w.heap.size + 2) (.slice A k c) k ((psL s).take k) HL.out (by simp [Act.eval, Act.put]) HO.out (some ⟨wr.heap.size, 0, none⟩) 1 1 [((s[k]'hks).toNat : Int) - 48] (wr.heap.size + 1) (k + 1) rfl (by simp [Act.eval, Act.put]) rfl HS.out k6 (by decide) (by simpa using hbs) ?_
                 intro A7 c7 w7 o7 g7
                 obtain ⟨⟨d4, e4⟩, hn3⟩ := HN.out A7 c7 w7 o7 g7
                 have HN3 := Lib.hid hn3
                 clear hn3 o7 g7))
            all_goals
              clear HS HO HN HP H1 hw8 hw64
              go_wp2
              go_roundw
              case rel => exact ⟨k + 1, A7, c7, by omega, by go_num, Hall2.out, HN3.out⟩
              case measure => simp [intOf]; omega
      · obtain rfl : k = n := by omega
        have hsame := Hsame.out fun j h => hall j h (by omega)
        have hpl : (psL s).length = k := by rw [Hpl.out]; exact hn
        obtain ⟨ho, q4, q3, hb, hz⟩ := hps
        rw [show (psL s).take k = psL s by rw [← hpl]; exact List.take_length] at ho
        have c4 := q4.cell
        have y4 := q4.lt
        have HP := Lib.hid (spec_pzGood A k c wr.heap.size (psL s) wr hpl (SlI.of_own ho) (Nat.le_refl _) (by omega))
        rw [hsame.1] at HP
        go_wp2_with fail
        refine HP.out.mono ?_
        rintro e w5 ⟨rfl, hb5⟩
        have o5 := own_kept ho hb5
        have p4 := q4.kept hb5
        have p3 := q3.kept hb5
        have b5 := below_kept hb (Nat.le_refl _) hb5
        have d4 := p4.cell
        have d3 := p3.cell
        have f3 := p3.frozen
        have y3 := p3.lt
        have HC := Lib.hid fun (u : Value) => (p3.set u).cell
        cases hp : pzB (ppL s)
        · have HE := Lib.hid (HNo.out hp _ (b5.setCell (p := ⟨w.heap.size, 0, none⟩) (Nat.le_refl _) (.slice none 0 0)))
          have c8 := HC.out (.slice none 0 0)
          clear HC HP ho q4 q3 hb hb5 o5 p4 p3 b5 c4 hp HNo hsame hall Hsame
          go_wp2
          exact bodyPost_ret (v := .tuple #[.agg #[.slice none 0 0], .bool false]) (by simp [results, Try.results38, go_sem, c8]) rfl HE.out
        · have hEq := hsame.2 hp
          rw [hEq] at o5
          have HE : Hid (ParE s w (.returned (.tuple #[.agg #[.slice A k c], .bool true])) (w5.setCell ⟨w.heap.size, 0, none⟩ (.slice A k c))) :=
            Lib.hid (parE_yes hp ⟨A, c, by rw [ppL_length, hn], by rw [ppL_length, hn]; exact (ownsRow_setCell_below o5 (a := ⟨w.heap.size, 0, none⟩) (by show w.heap.size < w.heap.size + 2; omega) (.slice A k c)).mono (by omega), b5.setCell (p := ⟨w.heap.size, 0, none⟩) (Nat.le_refl _) (.slice A k c)⟩)
          have c8 := HC.out (.slice A k c)
          clear HC HP ho q4 q3 hb hb5 o5 p4 p3 b5 c4 hp HNo hsame hall Hsame hEq
          go_wp2
          exact bodyPost_ret (v := .tuple #[.agg #[.slice A k c], .bool true]) (by simp [results, Try.results38, go_sem, c8]) rfl HE.out
  · have hw2' := Hw2.out
    rw [hw2'] at hd
    have HE := Lib.hid (parE_no (w := w) (par_long s (by omega)) (retP_nil hd))
    have h9' : (9 : Int) < (s.size : Int) := by omega
    clear hd q3 q4 Hw2 c8 h9
    go_enter Try.func38, Try.ntmps38
    go_wp2
    exact bodyPost_ret (v := .tuple #[.agg #[.slice none 0 0], .bool false]) (by simp [results, Try.results38, go_sem]) rfl HE.out

theorem WParsePuzzle.walk (w : World) (s : ByteArray) {p : Prop} (_ : p) :
    Calls Try.prog 11 #[.string s] w fun e w' => e = .returned (.bool true) ∧ Below w.heap.size w w' :=
  WParsePuzzle.core w s (ppR s) (pzB (ppL s)) (ppR_length s)
    (Lib.hid fun w => spec_ParsePuzzle s w)
    (Lib.hid fun w => impl_ParsePuzzle s w)
end Go.Proofs.Ytnoddecligmjbaa
