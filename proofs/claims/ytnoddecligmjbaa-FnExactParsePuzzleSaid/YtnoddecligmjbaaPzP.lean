/- ParsePuzzle: a text's bytes and the numbers that they stand for: plain mathematics. -/
import Derived.Test.YtnoddecligmjbaaPzE
import Derived.Test.YtnoddecligmjbaaIxbL
namespace Go.Proofs.Ytnoddecligmjbaa
set_option linter.unusedVariables false
open Go.RowKit

/-- the model's number of a byte; is it one that stands for a number? the program's number -/
def dS (b : UInt8) : Int := if b = 46 then 0 else (b.toNat : Int) - 48
def vB (b : UInt8) : Bool := b == 46 || (decide (49 ≤ b.toNat) && decide (b.toNat ≤ 57))
def dI (b : UInt8) : Int := Lib.indexByte [46, 49, 50, 51, 52, 53, 54, 55] b
theorem dI_all : ∀ n : Fin 256, -1 ≤ dI (UInt8.ofNat n) ∧ dI (UInt8.ofNat n) ≤ 7 ∧ (vB (UInt8.ofNat n) = false → dI (UInt8.ofNat n) = -1) ∧ (vB (UInt8.ofNat n) = true → dI (UInt8.ofNat n) = dS (UInt8.ofNat n) ∨ (dI (UInt8.ofNat n) = -1 ∧ 8 ≤ dS (UInt8.ofNat n))) := by decide +kernel
theorem dI_one (b : UInt8) : -1 ≤ dI b ∧ dI b ≤ 7 ∧ (vB b = false → dI b = -1) ∧ (vB b = true → dI b = dS b ∨ (dI b = -1 ∧ 8 ≤ dS b)) := by
  have h := dI_all ⟨b.toNat, b.toNat_lt⟩
  simpa using h
def byL (s : ByteArray) : List UInt8 := s.data.toList
theorem byL_length (s : ByteArray) : (byL s).length = s.size := by
  unfold byL
  rw [Array.length_toList]
  rfl
theorem byL_get (s : ByteArray) (k : Nat) (h : k < s.size) : (byL s).getD k 0 = s[k]'h := by
  have h2 : k < s.data.toList.length := by rw [Array.length_toList]; exact h
  unfold byL
  rw [List.getD_eq_getElem?_getD, List.getElem?_eq_getElem h2]
  rfl
def ppL (s : ByteArray) : List Int := (byL s).map dI
def psL (s : ByteArray) : List Int := (byL s).map dS
theorem ppL_length (s : ByteArray) : (ppL s).length = s.size := by rw [ppL, List.length_map, byL_length]
theorem psL_length (s : ByteArray) : (psL s).length = s.size := by rw [psL, List.length_map, byL_length]
theorem ppL_get (s : ByteArray) (k : Nat) (h : k < s.size) : (ppL s).getD k 0 = dI (s[k]'h) := by
  have h2 : k < s.data.toList.length := by rw [Array.length_toList]; exact h
  unfold ppL byL
  rw [List.getD_eq_getElem?_getD, List.getElem?_map, List.getElem?_eq_getElem h2]
  rfl
theorem psL_get (s : ByteArray) (k : Nat) (h : k < s.size) : (psL s).getD k 0 = dS (s[k]'h) := by
  have h2 : k < s.data.toList.length := by rw [Array.length_toList]; exact h
  unfold psL byL
  rw [List.getD_eq_getElem?_getD, List.getElem?_map, List.getElem?_eq_getElem h2]
  rfl
theorem ppL_bad (s : ByteArray) (k : Nat) (h : k < s.size) (hv : vB (s[k]'h) = false) : pzB (ppL s) = false := by
  rw [Bool.eq_false_iff]
  intro e
  have := pzB_get e k (by rw [ppL_length]; exact h)
  rw [ppL_get s k h, (dI_one _).2.2.1 hv] at this
  omega
theorem pzB_iff {l : List Int} : pzB l = true ↔ (3 ≤ l.length ∧ l.length ≤ 9) ∧ ∀ k, k < l.length → 0 ≤ l.getD k 0 ∧ l.getD k 0 ≤ (l.length : Int) - 2 := by
  constructor
  · intro h
    exact ⟨pzB_len h, fun k hk => pzB_get h k hk⟩
  · rintro ⟨h1, h2⟩
    unfold pzB pzL
    rw [Bool.and_eq_true]
    exact ⟨by simpa using h1, allB_iff.2 h2⟩
theorem pp_same (s : ByteArray) (hall : ∀ k (h : k < s.size), vB (s[k]'h) = true) : pzB (psL s) = pzB (ppL s) ∧ (pzB (ppL s) = true → psL s = ppL s) := by
  by_cases hb : ∀ k (h : k < s.size), dI (s[k]'h) = dS (s[k]'h)
  · have e : psL s = ppL s := by
      apply List.ext_getElem?
      intro k
      by_cases hk : k < s.size
      · have h1 := psL_get s k hk
        have h2 := ppL_get s k hk
        rw [← hb k hk, ← h2] at h1
        have l1 : k < (psL s).length := by rw [psL_length]; exact hk
        have l2 : k < (ppL s).length := by rw [ppL_length]; exact hk
        rw [List.getD_eq_getElem?_getD, List.getD_eq_getElem?_getD, List.getElem?_eq_getElem l1, List.getElem?_eq_getElem l2] at h1
        rw [List.getElem?_eq_getElem l1, List.getElem?_eq_getElem l2]
        exact congrArg some h1
      · rw [List.getElem?_eq_none (by rw [psL_length]; omega), List.getElem?_eq_none (by rw [ppL_length]; omega)]
    rw [e]
    exact ⟨rfl, fun _ => rfl⟩
  · have hex : ∃ k, ∃ h : k < s.size, dI (s[k]'h) ≠ dS (s[k]'h) := by
      apply Classical.byContradiction
      intro hn
      exact hb fun k h => Classical.byContradiction fun he => hn ⟨k, h, he⟩
    obtain ⟨k, hk, hne⟩ := hex
    have h1 := (dI_one (s[k]'hk)).2.2.2 (hall k hk)
    rcases h1 with h1 | ⟨h1, h2⟩
    · exact absurd h1 hne
    · have e1 : pzB (ppL s) = false := by
        rw [Bool.eq_false_iff]
        intro e
        have := (pzB_iff.1 e).2 k (by rw [ppL_length]; exact hk)
        rw [ppL_get s k hk] at this
        omega
      have e2 : pzB (psL s) = false := by
        rw [Bool.eq_false_iff]
        intro e
        obtain ⟨⟨_, h9⟩, hg⟩ := pzB_iff.1 e
        have := hg k (by rw [psL_length]; exact hk)
        rw [psL_get s k hk] at this
        omega
      rw [e1, e2]
      exact ⟨rfl, fun h => by cases h⟩
def ppR (s : ByteArray) : List Int := if pzB (ppL s) = true then ppL s else []
theorem ppR_length (s : ByteArray) : (ppR s).length ≤ 1000000000 := by
  unfold ppR
  split
  · next h =>
    have := pzB_len h
    omega
  · simp
def ParE (s : ByteArray) (w : World) (e : Ending) (w' : World) : Prop := RetP w (ppR s) (pzB (ppL s)) e w'
theorem parE_no {s : ByteArray} {w : World} {e : Ending} {w' : World} (h : pzB (ppL s) = false) (hr : RetP w [] false e w') : ParE s w e w' := by
  unfold ParE ppR
  rw [h]
  exact hr
theorem parE_yes {s : ByteArray} {w : World} {e : Ending} {w' : World} (h : pzB (ppL s) = true) (hr : RetP w (ppL s) true e w') : ParE s w e w' := by
  unfold ParE ppR
  rw [h]
  exact hr
theorem par_long (s : ByteArray) (h : ¬ (3 ≤ s.size ∧ s.size ≤ 9)) : pzB (ppL s) = false := by
  rw [Bool.eq_false_iff]
  intro e
  have := pzB_len e
  rw [ppL_length] at this
  omega

theorem retP_nil {w w1 : World} (hb : Below w.heap.size w w1) : RetP w [] false (.returned (.tuple #[.agg #[.slice none 0 0], .bool false])) w1 := ⟨none, 0, rfl, World.ownsRow_nil _ _ _ _, hb⟩

set_option maxRecDepth 100000 in
set_option maxHeartbeats 6400000 in
theorem impl_ParsePuzzle (s : ByteArray) (w : World) : Calls Try.prog 39 #[.string s] w (ParE s w) := by
  have hd := below_box (Below.refl w.heap.size w) (Nat.le_refl _) (.cells #[.slice none 0 0] 27)
  have Q := Bo.new w (.slice none 0 0) 27
  cases hi : inB (s.size : Int) 3 9
  · have HE := Lib.hid (parE_no (w := w) (par_long s (by unfold inB at hi; simp at hi; omega)) (retP_nil hd))
    clear Q hd
    go_enter Try.func39, Try.ntmps39
    go_wp2_with fail
    refine (impl_isPuzzleLength _ _).mono ?_
    rintro e w1 ⟨rfl, rfl⟩
    rw [hi]
    clear hi
    go_wp2
    exact bodyPost_ret (v := .tuple #[.agg #[.slice none 0 0], .bool false]) (by simp [results, Try.results39, go_sem]) rfl HE.out
  · obtain ⟨n, hn⟩ : ∃ n, s.size = n := ⟨_, rfl⟩
    have hn39 : 3 ≤ n ∧ n ≤ 9 := by unfold inB at hi; simp at hi; omega
    obtain ⟨n3, n9⟩ := hn39
    obtain ⟨w1, hw1⟩ : ∃ w1, w1 = w.alloc (.cells #[.slice none 0 0] 27) := ⟨_, rfl⟩
    rw [← hw1] at hd Q
    have hz1 : w1.heap.size = w.heap.size + 1 := by rw [hw1]; simp
    have Hw1 := Lib.hid hw1
    have HQ := Lib.hid Q
    have Hd := Lib.hid hd
    have Hn := Lib.hid hn
    have Hlen : Hid ((ppL s).length = n) := Lib.hid (by rw [ppL_length, hn])
    have Hget := Lib.hid (ppL_get s)
    have HYes : Hid (pzB (ppL s) = true → ∀ w5 c w6, w5.ownsRow w.heap.size 3 1 (.slice c n n) n (ics (ppL s)) → Below w.heap.size w w5 → w6 = w5 → ParE s w (.returned (.tuple #[.agg #[.slice c n n], .bool true])) w6) := Lib.hid fun e w5 c w6 ho hb hw => parE_yes e ⟨c, n, by rw [ppL_length, hn], by rw [ppL_length, hn, hw]; exact ho, by rw [hw]; exact hb⟩
    have HNo : Hid (pzB (ppL s) = false → ∀ w5, Below w.heap.size w w5 → ParE s w (.returned (.tuple #[.agg #[.slice none 0 0], .bool false])) w5) := Lib.hid fun e w5 hb => parE_no e (retP_nil hb)
    obtain ⟨i0, hii, hz0, hz1', hz2⟩ := info_parts infoI
    have hbytes : i0.bytes * n ≤ 281474976710656 := by rw [hz2]; omega
    have hmax : n ≤ maxLen := by unfold maxLen; omega
    have m3 : (3 : Int) ≤ (n : Int) := by omega
    rw [hn] at hi
    clear hd Q hw1
    go_enter Try.func39, Try.ntmps39
    go_wp2_with fail
    rw [← Hw1.out]
    clear Hw1
    refine (impl_isPuzzleLength _ _).mono ?_
    rintro e w1 ⟨rfl, rfl⟩
    rw [hi]
    clear hi
    go_wp2_with (at_make; refine wpList_make_full _ rfl _ _ _ rfl w1.heap.size 3 i0 (.int .i64 0) 1 Try.underlying22 hii hz0 hz1' _ _ _ _ n rfl rfl rfl rfl hbytes hmax (Nat.le_refl _) ?_; intro w2 hown2 hgrow2; (have hb2 : Below w1.heap.size w1 w2 := (Below.refl _ _).grown hgrow2 (Nat.le_refl _) (by simp)))
    have e1 : (madeCells (Value.int .i64 0).cells (n * 1)).toList = ics (copyI (ppL s) 0) := by
      rw [copyI_zero, Hlen.out, Nat.mul_one]
      show (madeCells #[Value.int .i64 0] n).toList = _
      rw [toList_madeCells_one]
      simp [ics]
    rw [e1, hz1] at hown2
    have hba := below_box (Below.refl w2.heap.size w2) (Nat.le_refl _) (.cells #[.slice (some ⟨w.heap.size + 1, 0, none⟩) n n] 27)
    have o3 := own_kept hown2 hba
    have q3 := (HQ.out.kept hb2).kept hba
    have q4 := Bo.new w2 (.slice (some ⟨w.heap.size + 1, 0, none⟩) n n) 27
    have b3 := below_kept (below_kept Hd.out (Nat.le_refl _) hb2) (Nat.le_refl _) hba
    have hz2 : w.heap.size + 2 ≤ w2.heap.size := by
      have h1 := (hown2.lt (w.heap.size + 1) rfl).2
      omega
    have O3 := Lib.hid o3
    have Q3 := Lib.hid q3
    have Q4 := Lib.hid q4
    have B3 := Lib.hid b3
    obtain ⟨b4, hb4⟩ : ∃ b, b = w2.heap.size := ⟨_, rfl⟩
    rw [← hb4] at Q4 hz2
    have Hb4 := Lib.hid hb4
    clear e1 hgrow2 hown2 hba o3 q3 q4 b3 hb2 HQ Hd hbytes hmax hii hz0 hz1' hb4
    go_wp2
    rw [← Hb4.out]
    clear Hb4
    go_loopw [5, 18] (fun _ i wr => ∃ k : Nat, k ≤ n ∧ i = .int .i64 k ∧ wr.ownsRow (w.heap.size + 1) 3 1 (.slice (some ⟨w.heap.size + 1, 0, none⟩) n n) n (ics (copyI (ppL s) k)) ∧ Bo wr b4 (.slice (some ⟨w.heap.size + 1, 0, none⟩) n n) 27 ∧ Bo wr w.heap.size (.slice none 0 0) 27 ∧ Below w.heap.size w wr) (fun _ i _ => n - (intOf i).toNat)
    case atStart => exact ⟨0, Nat.zero_le _, rfl, O3.out, Q4.out, Q3.out, B3.out⟩
    case round =>
      clear O3 Q4 Q3 B3
      obtain ⟨k, hk, rfl, ho, hq4, hq3, hb⟩ := hrel
      by_cases hlt : k < n
      · have hks : k < s.size := by rw [hn]; exact hlt
        have i0 : (0 : Int) ≤ (k : Int) := by omega
        have i1 : (k : Int) < (n : Int) := by omega
        have hkl : k < (ppL s).length := by rw [Hlen.out]; exact hlt
        have HX : Hid (∀ w : World, Calls Try.prog 116 #[.string ⟨#[46, 49, 50, 51, 52, 53, 54, 55]⟩, .int .u8 ((s[k]'hks).toNat : Int)] w fun e w' => e = .returned (.int .i64 ((ppL s).getD k 0)) ∧ w' = w) := Lib.hid fun w => (impl_IndexByte ⟨#[46, 49, 50, 51, 52, 53, 54, 55]⟩ (s[k]'hks) _ rfl w).mono fun e w' ⟨h1, h2⟩ => ⟨by rw [h1, Hget.out k hks]; rfl, h2⟩
        have hcell : wr.drew.cell? ⟨w.heap.size + 1, k, none⟩ = some (.int .i64 ((copyI (ppL s) k).getD k 0)) := by
          show wr.cell? _ = _
          rw [ho.cellAt k (by omega), ics_get _ _ (by rw [copyI_length _ _ (by omega)]; exact hkl)]
        have hfro : wr.drew.frozen? ⟨w.heap.size + 1, k, none⟩ = false := ho.frozenAt k
        obtain ⟨o5, _⟩ := World.ownsRow.stored (w := wr.drew) ho k (.int .i64 ((ppL s).getD k 0))
        rw [ics_set, copyI_succ _ _ hkl] at o5
        have r4 := Bo.setFar (w := wr.drew) (a := ⟨w.heap.size + 1, k, none⟩) hq4 (show b4 ≠ w.heap.size + 1 by omega) (.int .i64 ((ppL s).getD k 0))
        have r3 := Bo.setFar (w := wr.drew) (a := ⟨w.heap.size + 1, k, none⟩) hq3 (show w.heap.size ≠ w.heap.size + 1 by omega) (.int .i64 ((ppL s).getD k 0))
        have b5 := Below.setCell hb.drew (p := ⟨w.heap.size + 1, k, none⟩) (show w.heap.size ≤ w.heap.size + 1 by omega) (.int .i64 ((ppL s).getD k 0))
        have c4 := hq4.cell
        have S8 : (wr.drew.setCell ⟨w.heap.size + 1, k, none⟩ (.int .i64 ((ppL s).getD k 0))).cell? ⟨b4, 0, none⟩ = some (.slice (some ⟨w.heap.size + 1, 0, none⟩) n n) ∧ Below w.heap.size w (wr.drew.setCell ⟨w.heap.size + 1, k, none⟩ (.int .i64 ((ppL s).getD k 0))) := ⟨r4.cell, b5⟩
        have O5 := Lib.hid o5
        have R4 := Lib.hid r4
        have R3 := Lib.hid r3
        have B5 := Lib.hid b5
        have hbd := hb.drew
        clear ho hq4 hq3 hb o5 r4 r3 b5
        generalize (ppL s).getD k 0 = x at *
        generalize (copyI (ppL s) k).getD k 0 = y at *
        go_wp2
        go_region_held3 (fun w' => w'.cell? ⟨b4, 0, none⟩ = some (.slice (some ⟨w.heap.size + 1, 0, none⟩) n n) ∧ Below w.heap.size w w')
          (first
            | assumption
            | exact ⟨c4, hbd⟩
            | exact S8)
          (first
            | (go_at_call 116; refine (HX.out _).mono ?_; rintro e w6 ⟨rfl, rfl⟩))
        rename_i hS
        clear hS S8 HX hcell hfro c4 hbd
        go_wp2
        go_roundw
        case rel => exact ⟨k + 1, by omega, by go_num, O5.out, R4.out, R3.out, B5.out⟩
        case measure => simp [intOf]; omega
      · obtain rfl : k = n := by omega
        rw [show copyI (ppL s) k = ppL s by rw [← Hlen.out]; exact copyI_all _] at ho
        have c4 := hq4.cell
        have y4 := hq4.lt
        have HP := Lib.hid (impl_IsPuzzle (some ⟨w.heap.size + 1, 0, none⟩) k k wr.heap.size (ppL s) wr Hlen.out (SlI.of_own ho) (Nat.le_refl _) (by omega))
        go_wp2_with fail
        refine HP.out.mono ?_
        rintro e w5 ⟨rfl, hb5⟩
        have o5 := own_kept ho hb5
        have q4 := hq4.kept hb5
        have q3 := hq3.kept hb5
        have b5 := below_kept hb (Nat.le_refl _) hb5
        have d4 := q4.cell
        have d3 := q3.cell
        have f3 := q3.frozen
        have y3 := q3.lt
        have HC := Lib.hid fun (u : Value) => (q3.set u).cell
        cases hp : pzB (ppL s)
        · have HE := Lib.hid (HNo.out hp _ (b5.setCell (p := ⟨w.heap.size, 0, none⟩) (Nat.le_refl _) (.slice none 0 0)))
          have c8 := HC.out (.slice none 0 0)
          clear HC HP ho hq4 hq3 hb hb5 o5 q4 q3 b5 c4 hp HYes HNo
          go_wp2
          exact bodyPost_ret (v := .tuple #[.agg #[.slice none 0 0], .bool false]) (by simp [results, Try.results39, go_sem, c8]) rfl HE.out
        · have HE := Lib.hid (HYes.out hp _ (some ⟨w.heap.size + 1, 0, none⟩) _ ((ownsRow_setCell_below o5 (a := ⟨w.heap.size, 0, none⟩) (Nat.lt_succ_self _) (.slice (some ⟨w.heap.size + 1, 0, none⟩) k k)).mono (Nat.le_succ _)) (b5.setCell (p := ⟨w.heap.size, 0, none⟩) (Nat.le_refl _) (.slice (some ⟨w.heap.size + 1, 0, none⟩) k k)) rfl)
          have c8 := HC.out (.slice (some ⟨w.heap.size + 1, 0, none⟩) k k)
          clear HC HP ho hq4 hq3 hb hb5 o5 q4 q3 b5 c4 hp HYes HNo
          go_wp2
          exact bodyPost_ret (v := .tuple #[.agg #[.slice (some ⟨w.heap.size + 1, 0, none⟩) k k], .bool true]) (by simp [results, Try.results39, go_sem, c8]) rfl HE.out
end Go.Proofs.Ytnoddecligmjbaa
