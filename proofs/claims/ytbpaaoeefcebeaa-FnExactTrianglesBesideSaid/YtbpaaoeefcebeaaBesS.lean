/- Corners that two triangles have in common: both sides. -/
import Derived.Test.YtbpaaoeefcebeaaBesM
namespace Go.Proofs.Ytbpaaoeefcebeaa
set_option linter.unusedVariables false
open Go.RowKit

theorem mem_take_snoc {l : List Int} {k : Nat} (hk : k < l.length) {x : Int} (h1 : x ∉ l.take k) (h2 : l.getD k 0 ≠ x) : x ∉ l.take (k + 1) := by
  rw [List.take_succ_eq_append_getElem hk, List.mem_append]
  rintro (h | h)
  · exact h1 h
  · simp at h
    refine h2 ?_
    rw [h]; simp [hk]
theorem mem_at {l : List Int} {k : Nat} (hk : k < l.length) : l.getD k 0 ∈ l := by
  have e : l.getD k 0 = l[k] := by simp [hk]
  rw [e]; exact List.getElem_mem hk

set_option maxHeartbeats 1600000 in
theorem spec_l1Has (A : Option Addr) (n c B : Nat) (l : List Int) (x : Int) (w : World) (hl : l.length = n) (h : SlI w B A l) (hn9 : n ≤ 1000000) :
    Calls Try.prog 92 #[.slice A n c, .int .i64 x] w fun e w' => e = .returned (.bool (decide (x ∈ l))) ∧ w = w' := by
  have Hl := Lib.hid hl
  have H := Lib.hid h
  clear hl h
  go_enter Try.func92, Try.ntmps92
  go_wp2
  go_loop [6, 9] (fun _ i => ∃ k : Nat, k ≤ n ∧ i = .int .i64 k ∧ x ∉ l.take k) (fun _ i => n - (intOf i).toNat)
  case atStart => exact ⟨0, Nat.zero_le _, rfl, by simp⟩
  case round =>
    obtain ⟨k, hk, rfl, hn⟩ := hrel
    have Hn := Lib.hid hn
    clear hn
    by_cases hlt : k < n
    · have hkl : k < l.length := by rw [Hl.out]; exact hlt
      obtain ⟨b, off, rfl, hbB, hc⟩ := H.out (by omega)
      have g := hc k hkl
      have i0 : (0 : Int) ≤ (k : Int) := by omega
      have i1 : (k : Int) < (n : Int) := by omega
      have hm := mem_at hkl
      have hs := mem_take_snoc hkl Hn.out
      generalize l.getD k 0 = y at *
      have Hm := Lib.hid hm
      have Hs := Lib.hid hs
      clear hc hm hs
      by_cases e : y = x
      · subst e
        have HE := Lib.hid (show decide (y ∈ l) = true from decide_eq_true Hm.out)
        go_wp2
        go_ret
        exact ⟨ret_bool HE.out.symm, rfl⟩
      · have he : (y == x) = false := by simpa using e
        have HE := Lib.hid (Hs.out e)
        clear e
        go_wp2
        go_round
        case rel => exact ⟨k + 1, by omega, by go_num, HE.out⟩
        case measure => simp [intOf]; omega
    · obtain rfl : k = n := by omega
      have hx := Hn.out
      rw [List.take_of_length_le (by rw [Hl.out]; exact Nat.le_refl _)] at hx
      have HE := Lib.hid (show decide (x ∈ l) = false from decide_eq_false hx)
      clear hx
      go_wp2
      go_ret
      exact ⟨ret_bool HE.out.symm, rfl⟩

set_option maxHeartbeats 1600000 in
theorem slices_IndexI (A : Option Addr) (n c B : Nat) (l : List Int) (x : Int) (w : World) (hl : l.length = n) (h : SlI w B A l) (hn9 : n ≤ 1000000) :
    Calls Try.prog 106 #[.slice A n c, .int .i64 x] w fun e w' => (∃ r : Int, e = .returned (.int .i64 r) ∧ ((0 ≤ r ∧ x ∈ l) ∨ (r = -1 ∧ x ∉ l))) ∧ w = w' := by
  have Hl := Lib.hid hl
  have H := Lib.hid h
  clear hl h
  go_enter Try.func106, Try.ntmps106
  go_wp2
  go_loop [5, 8] (fun _ i => ∃ k : Nat, k ≤ n ∧ i = .int .i64 k ∧ x ∉ l.take k) (fun _ i => n - (intOf i).toNat)
  case atStart => exact ⟨0, Nat.zero_le _, rfl, by simp⟩
  case round =>
    obtain ⟨k, hk, rfl, hn⟩ := hrel
    have Hn := Lib.hid hn
    clear hn
    by_cases hlt : k < n
    · have hkl : k < l.length := by rw [Hl.out]; exact hlt
      obtain ⟨b, off, rfl, hbB, hc⟩ := H.out (by omega)
      have g := hc k hkl
      have i0 : (0 : Int) ≤ (k : Int) := by omega
      have i1 : (k : Int) < (n : Int) := by omega
      have hm := mem_at hkl
      have hs := mem_take_snoc hkl Hn.out
      generalize l.getD k 0 = y at *
      have Hm := Lib.hid hm
      have Hs := Lib.hid hs
      clear hc hm hs
      by_cases e : y = x
      · subst e
        go_wp2
        go_ret
        exact ⟨⟨k, rfl, .inl ⟨by omega, Hm.out⟩⟩, rfl⟩
      · have he : (x == y) = false := by simpa using fun h : x = y => e h.symm
        have HE := Lib.hid (Hs.out e)
        clear e
        go_wp2
        go_round
        case rel => exact ⟨k + 1, by omega, by go_num, HE.out⟩
        case measure => simp [intOf]; omega
    · obtain rfl : k = n := by omega
      have hx := Hn.out
      rw [List.take_of_length_le (by rw [Hl.out]; exact Nat.le_refl _)] at hx
      have HE := Lib.hid hx
      clear hx
      go_wp2
      go_ret
      exact ⟨⟨-1, rfl, .inr ⟨rfl, HE.out⟩⟩, rfl⟩

theorem slices_ContainsI (A : Option Addr) (n c B : Nat) (l : List Int) (x : Int) (w : World) (hl : l.length = n) (h : SlI w B A l) (hn9 : n ≤ 1000000) :
    Calls Try.prog 93 #[.slice A n c, .int .i64 x] w fun e w' => e = .returned (.bool (decide (x ∈ l))) ∧ w = w' := by
  have Hi := Lib.hid (slices_IndexI A n c B l x w hl h hn9)
  clear hl h
  go_enter Try.func93, Try.ntmps93
  go_wp2_with fail
  refine Hi.out.mono ?_
  rintro e w' ⟨⟨r, rfl, hr⟩, rfl⟩
  rcases hr with ⟨hr, hm⟩ | ⟨rfl, hm⟩
  · have HE := Lib.hid (show decide (x ∈ l) = true from decide_eq_true hm)
    clear hm
    go_wp2
    go_ret
    exact ⟨ret_bool HE.out.symm, rfl⟩
  · have HE := Lib.hid (show decide (x ∈ l) = false from decide_eq_false hm)
    clear hm
    go_wp2
    go_ret
    exact ⟨ret_bool HE.out.symm, rfl⟩

set_option maxHeartbeats 1600000 in
theorem spec_poShared (A A2 : Option Addr) (n n2 c c2 B B2 : Nat) (l r : List Int) (w : World) (hl : l.length = n) (h : SlI w B A l) (hr : r.length = n2) (h2 : SlI w B2 A2 r) (hn9 : n ≤ 1000) (hn92 : n2 ≤ 1000) :
    Calls Try.prog 59 #[.slice A n c, .slice A2 n2 c2] w fun e w' => e = .returned (.int .i64 (shK l r n : Nat)) ∧ w = w' := by
  have Hl := Lib.hid hl
  have H := Lib.hid h
  have Hin := Lib.hid (fun x => spec_l1Has A2 n2 c2 B2 r x w hr h2 (by omega))
  clear hl h hr h2
  go_enter Try.func59, Try.ntmps59
  go_wp2
  go_loop [5, 7, 10] (fun s _ i => ∃ k : Nat, k ≤ n ∧ i = .int .i64 k ∧ s = .int .i64 (shK l r k : Nat)) (fun _ _ i => n - (intOf i).toNat)
  case atStart => exact ⟨0, Nat.zero_le _, rfl, rfl⟩
  case round =>
    obtain ⟨k, hk, rfl, rfl⟩ := hrel
    by_cases hlt : k < n
    · have hkl : k < l.length := by rw [Hl.out]; exact hlt
      obtain ⟨b, off, rfl, hbB, hc⟩ := H.out (by omega)
      have g := hc k hkl
      have i0 : (0 : Int) ≤ (k : Int) := by omega
      have i1 : (k : Int) < (n : Int) := by omega
      have hst := fun b => shK_step (b := r) (r := b) hkl
      have hle := shK_le l r k
      have sb : ((shK l r k : Nat) : Int) ≤ 1000 := by omega
      generalize l.getD k 0 = y at *
      have Hst := Lib.hid hst
      have Hc := Lib.hid (Hin.out y)
      clear hc hst hle
      cases hx : decide (y ∈ r)
      · rw [hx] at Hc
        have HE := Lib.hid (Hst.out false hx)
        clear hx
        go_wp2_with fail
        refine Hc.out.mono ?_
        rintro e w' ⟨rfl, rfl⟩
        go_wp2
        go_round
        case rel => exact ⟨k + 1, by omega, by go_num, by rw [HE.out]; rfl⟩
        case measure => simp [intOf]; omega
      · rw [hx] at Hc
        have HE := Lib.hid (Hst.out true hx)
        clear hx
        go_wp2_with fail
        refine Hc.out.mono ?_
        rintro e w' ⟨rfl, rfl⟩
        go_wp2
        go_round
        case rel => exact ⟨k + 1, by omega, by go_num, by rw [HE.out]; go_num⟩
        case measure => simp [intOf]; omega
    · obtain rfl : k = n := by omega
      go_wp2
      go_ret
      exact ⟨rfl, rfl⟩

set_option maxHeartbeats 1600000 in
theorem impl_countCommon (A A2 : Option Addr) (n n2 c c2 B B2 : Nat) (l r : List Int) (w : World) (hl : l.length = n) (h : SlI w B A l) (hr : r.length = n2) (h2 : SlI w B2 A2 r) (hn9 : n ≤ 1000) (hn92 : n2 ≤ 1000) :
    Calls Try.prog 60 #[.slice A n c, .slice A2 n2 c2] w fun e w' => e = .returned (.int .i64 (shK l r n : Nat)) ∧ w = w' := by
  have Hl := Lib.hid hl
  have H := Lib.hid h
  have Hin := Lib.hid (fun x => slices_ContainsI A2 n2 c2 B2 r x w hr h2 (by omega))
  clear hl h hr h2
  go_enter Try.func60, Try.ntmps60
  go_wp2
  go_loop [5, 7, 10] (fun s _ i => ∃ k : Nat, k ≤ n ∧ i = .int .i64 k ∧ s = .int .i64 (shK l r k : Nat)) (fun _ _ i => n - (intOf i).toNat)
  case atStart => exact ⟨0, Nat.zero_le _, rfl, rfl⟩
  case round =>
    obtain ⟨k, hk, rfl, rfl⟩ := hrel
    by_cases hlt : k < n
    · have hkl : k < l.length := by rw [Hl.out]; exact hlt
      obtain ⟨b, off, rfl, hbB, hc⟩ := H.out (by omega)
      have g := hc k hkl
      have i0 : (0 : Int) ≤ (k : Int) := by omega
      have i1 : (k : Int) < (n : Int) := by omega
      have hst := fun b => shK_step (b := r) (r := b) hkl
      have hle := shK_le l r k
      have sb : ((shK l r k : Nat) : Int) ≤ 1000 := by omega
      generalize l.getD k 0 = y at *
      have Hst := Lib.hid hst
      have Hc := Lib.hid (Hin.out y)
      clear hc hst hle
      cases hx : decide (y ∈ r)
      · rw [hx] at Hc
        have HE := Lib.hid (Hst.out false hx)
        clear hx
        go_wp2_with fail
        refine Hc.out.mono ?_
        rintro e w' ⟨rfl, rfl⟩
        go_wp2
        go_round
        case rel => exact ⟨k + 1, by omega, by go_num, by rw [HE.out]; rfl⟩
        case measure => simp [intOf]; omega
      · rw [hx] at Hc
        have HE := Lib.hid (Hst.out true hx)
        clear hx
        go_wp2_with fail
        refine Hc.out.mono ?_
        rintro e w' ⟨rfl, rfl⟩
        go_wp2
        go_round
        case rel => exact ⟨k + 1, by omega, by go_num, by rw [HE.out]; go_num⟩
        case measure => simp [intOf]; omega
    · obtain rfl : k = n := by omega
      go_wp2
      go_ret
      exact ⟨rfl, rfl⟩
end Go.Proofs.Ytbpaaoeefcebeaa
