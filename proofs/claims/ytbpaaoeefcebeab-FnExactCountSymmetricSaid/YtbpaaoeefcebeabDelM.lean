/- Rows that are kept, of rows of diagonals: lists. -/
import Derived.Test.YtbpaaoeefcebeabDDA
namespace Go.Proofs.Ytbpaaoeefcebeab
set_option linter.unusedVariables false
open Go.RowKit

/-- which of the first j are kept -/
def kpL (p : Nat → Bool) (j : Nat) : List Nat := (List.range j).filter p
theorem kpL_zero (p : Nat → Bool) : kpL p 0 = [] := rfl
theorem kpL_hit {p : Nat → Bool} {j : Nat} (h : p j = true) : kpL p (j + 1) = kpL p j ++ [j] := by
  unfold kpL
  rw [List.range_succ, List.filter_append]
  simp [h]
theorem kpL_miss {p : Nat → Bool} {j : Nat} (h : p j = false) : kpL p (j + 1) = kpL p j := by
  unfold kpL
  rw [List.range_succ, List.filter_append]
  simp [h]
theorem kpL_le (p : Nat → Bool) (j : Nat) : (kpL p j).length ≤ j := by
  unfold kpL
  refine Nat.le_trans (List.length_filter_le _ _) ?_
  simp
theorem kpL_lt {p : Nat → Bool} {j x : Nat} (h : x ∈ kpL p j) : x < j := by
  unfold kpL at h
  exact List.mem_range.1 (List.mem_filter.1 h).1
theorem kpL_nodup (p : Nat → Bool) (j : Nat) : (kpL p j).Nodup := List.Pairwise.filter _ List.nodup_range
theorem kpL_all {p : Nat → Bool} {i : Nat} (h : ∀ x, x < i → p x = true) : kpL p i = List.range i := by
  unfold kpL
  exact List.filter_eq_self.2 fun x hx => h x (List.mem_range.1 hx)
/-- the rows' values in the making: i of the first j kept, all from j on as they were -/
def Kp (rs vs : List Value) (p : Nat → Bool) (i j : Nat) : Prop :=
  vs.length = rs.length ∧ i = (kpL p j).length ∧ (∀ x, x < i → rvD vs x = rvD rs ((kpL p j).getD x 0)) ∧ ∀ x, j ≤ x → x < rs.length → rvD vs x = rvD rs x
theorem rvD_set (vs : List Value) (t : Nat) (r : Value) (j : Nat) : rvD (vs.set t r) j = if j = t then (if t < vs.length then r else .slice none 0 0) else rvD vs j := by
  unfold rvD
  simp only [List.getD_eq_getElem?_getD, List.getElem?_set]
  by_cases e : t = j
  · subst e
    by_cases h : t < vs.length <;> simp [h]
  · rw [if_neg e, if_neg (fun x => e x.symm)]
theorem Kp.start {rs : List Value} {p : Nat → Bool} {i : Nat} (h : ∀ x, x < i → p x = true) (h2 : p i = false) : Kp rs rs p i (i + 1) := by
  refine ⟨rfl, ?_, fun x hx => ?_, fun x _ _ => rfl⟩
  · rw [kpL_miss h2, kpL_all h, List.length_range]
  · rw [kpL_miss h2, kpL_all h]
    congr 1
    simp [hx]
theorem Kp.miss {rs vs : List Value} {p : Nat → Bool} {i j : Nat} (h : Kp rs vs p i j) (h2 : p j = false) : Kp rs vs p i (j + 1) := by
  obtain ⟨a, b, c, d⟩ := h
  refine ⟨a, by rw [kpL_miss h2]; exact b, fun x hx => by rw [kpL_miss h2]; exact c x hx, fun x h1 h3 => d x (by omega) h3⟩
theorem Kp.hit {rs vs : List Value} {p : Nat → Bool} {i j : Nat} (h : Kp rs vs p i j) (h2 : p j = true) (hj : j < rs.length) : Kp rs (vs.set i (rvD rs j)) p (i + 1) (j + 1) := by
  obtain ⟨a, b, c, d⟩ := h
  have hle := kpL_le p j
  refine ⟨by rw [List.length_set, a], by rw [kpL_hit h2, List.length_append, ← b]; rfl, fun x hx => ?_, fun x h1 h3 => ?_⟩
  · rw [rvD_set, kpL_hit h2]
    by_cases e : x = i
    · rw [if_pos e, if_pos (by omega), e]
      have : (kpL p j ++ [j]).getD i 0 = j := by
        rw [List.getD_eq_getElem?_getD, List.getElem?_append_right (by omega)]
        rw [← b]; simp
      rw [this]
    · rw [if_neg e, c x (by omega)]
      congr 1
      simp only [List.getD_eq_getElem?_getD]
      rw [List.getElem?_append_left (by omega)]
  · rw [rvD_set, if_neg (by omega)]
    exact d x (by omega) h3
theorem kp_filter (Ls : List (List (Int × Int))) (P : List (Int × Int) → Bool) : (kpL (fun j => P (rowD Ls j)) Ls.length).map (rowD Ls) = Ls.filter P := by
  have h : (List.range Ls.length).map (rowD Ls) = Ls := by
    apply List.ext_getElem
    · simp
    · intro i h1 h2
      simp [rowD, h2]
  conv => rhs; rw [← h]
  rw [List.filter_map]
  rfl
/-- rows kept: owned -/
theorem OwnDD.sub {w : World} {base : Nat} {A : Option Addr} {c i : Nat} {rs xs : List Value} {Ls : List (List (Int × Int))} {p : Nat → Bool} (hin : ∀ j, j < Ls.length → w.ownsRow base 65 2 (rvD rs j) (rowD Ls j).length (dcs (rowD Ls j)))
    (hd : ∀ i j, i < Ls.length → j < Ls.length → i ≠ j → ∀ k, (rvD rs i).ownBlock = some k → some k ≠ (rvD rs j).ownBlock)
    (ho : w.ownsRow base 26 1 (.slice A i c) i xs) (hi : i = (kpL p Ls.length).length) (hx : ∀ x, x < i → rvD xs x = rvD rs ((kpL p Ls.length).getD x 0)) : OwnDD w base A c xs ((kpL p Ls.length).map (rowD Ls)) := by
  have hK : ∀ x, x < i → (kpL p Ls.length).getD x 0 < Ls.length := fun x h => by
    have hx2 : x < (kpL p Ls.length).length := by omega
    have : (kpL p Ls.length).getD x 0 = (kpL p Ls.length)[x] := by simp [hx2]
    rw [this]
    exact kpL_lt (List.getElem_mem hx2)
  have hrow : ∀ x, x < i → rowD ((kpL p Ls.length).map (rowD Ls)) x = rowD Ls ((kpL p Ls.length).getD x 0) := fun x h => by
    have hx2 : x < (kpL p Ls.length).length := by omega
    have e : (kpL p Ls.length).getD x 0 = (kpL p Ls.length)[x] := by simp [hx2]
    rw [e]
    show ((kpL p Ls.length).map (rowD Ls)).getD x [] = _
    rw [List.getD_eq_getElem?_getD, List.getElem?_map, List.getElem?_eq_getElem hx2]
    rfl
  have hl : ((kpL p Ls.length).map (rowD Ls)).length = i := by rw [List.length_map, ← hi]
  refine ⟨by have := ho.1; omega, by rw [hl]; exact ho, fun x h => ?_, fun x y h1 h2 hxy k hk => ?_⟩
  · rw [hl] at h
    rw [hrow x h, hx x h]
    exact hin _ (hK x h)
  · rw [hl] at h1 h2
    rw [hx x h1] at hk
    rw [hx y h2]
    refine hd _ _ (hK x h1) (hK y h2) ?_ k hk
    intro e
    refine hxy ?_
    have hx2 : x < (kpL p Ls.length).length := by omega
    have hy2 : y < (kpL p Ls.length).length := by omega
    have e2 : (kpL p Ls.length)[x] = (kpL p Ls.length)[y] := by simpa [hx2, hy2] using e
    have hN := List.pairwise_iff_getElem.1 (kpL_nodup p Ls.length)
    rcases Nat.lt_trichotomy x y with hlt | heq | hgt
    · exact absurd e2 (hN x y hx2 hy2 hlt)
    · exact heq
    · exact absurd e2.symm (hN y x hy2 hx2 hgt)
/-- a beginning of what is owned, cleared behind it -/
theorem own_front {w : World} {base e g n c i : Nat} {xs : List Value} (h : w.ownsRow base e 1 (.slice (some ⟨g, 0, none⟩) n c) n xs) (hi : i ≤ n) : w.ownsRow base e 1 (.slice (some ⟨g, 0, none⟩) i c) i (xs.take i) := by
  rcases h.2 with ⟨h', _⟩ | ⟨g', cap', cur, h', hb, hg, hnc, hcm, hcs, htake⟩
  · simp at h'
  · simp only [Value.slice.injEq, Option.some.injEq, Addr.mk.injEq, and_true, true_and] at h'
    obtain ⟨rfl, rfl⟩ := h'
    refine ⟨by have := h.1; simp; omega, .inr ⟨g, c, cur, rfl, hb, hg, by omega, hcm, hcs, ?_⟩⟩
    rw [← htake, List.take_take]
    congr 1
    omega
theorem own_cleared {base e g n c : Nat} {xs : List Value} : ∀ (l : List Value) (o : Nat) (w : World), w.ownsRow base e 1 (.slice (some ⟨g, 0, none⟩) n c) n xs → n ≤ o → (w.setCells g o l).ownsRow base e 1 (.slice (some ⟨g, 0, none⟩) n c) n xs ∧ w.grownBy (w.setCells g o l) (some g)
  | [], _, w, h, _ => ⟨h, World.grownBy.refl w _⟩
  | v :: r, o, w, h, ho => by
    obtain ⟨h1, h2⟩ := h.stored o v
    have hx : xs.set o v = xs := List.set_eq_of_length_le (by have := h.1; omega)
    rw [hx] at h1
    obtain ⟨h3, h4⟩ := own_cleared r (o + 1) (w.setCell ⟨g, o, none⟩ v) h1 (by omega)
    exact ⟨h3, h2.trans h4⟩
end Go.Proofs.Ytbpaaoeefcebeab
