/- Corners moved: plain mathematics. -/
import Derived.Test.YtfkkbjbgjmaciaaSortM
import Derived.Test.YtfkkbjbgjmaciaaQuidM
namespace Go.Proofs.Ytfkkbjbgjmaciaa
set_option linter.unusedVariables false

/-- a pair of corners, moved and put in order -/
def mvD (f : Int → Int) (d : Int × Int) : Int × Int := (min (f d.1) (f d.2), max (f d.1) (f d.2))
def mvL (f : Int → Int) (l : List (Int × Int)) : List (Int × Int) := l.map (mvD f)
theorem mvL_length (f : Int → Int) (l : List (Int × Int)) : (mvL f l).length = l.length := by simp [mvL]
theorem mvL_take (f : Int → Int) (l : List (Int × Int)) (k : Nat) (h : k < l.length) : mvL f (l.take (k + 1)) = mvL f (l.take k) ++ [mvD f (l.getD k (0, 0))] := by
  unfold mvL
  rw [List.take_succ_eq_append_getElem h, List.map_append]
  simp [h]
/-- by a list of corners -/
def byL (to : List Int) (c : Int) : Int := to.getD c.toNat 0
def turnF (n k c : Int) : Int := (c + k) % n
def mirrF (n c : Int) : Int := n - 1 - c
theorem mvL_congr {f g : Int → Int} {l : List (Int × Int)} (h : ∀ d ∈ l, f d.1 = g d.1 ∧ f d.2 = g d.2) : mvL f l = mvL g l := by
  unfold mvL
  refine List.map_congr_left fun d hd => ?_
  obtain ⟨h1, h2⟩ := h d hd
  unfold mvD
  rw [h1, h2]
/-- f at 0, 1, .., m - 1 -/
def tabL (f : Int → Int) (m : Nat) : List Int := (List.range m).map fun (i : Nat) => f i
theorem tabL_length (f : Int → Int) (m : Nat) : (tabL f m).length = m := by simp [tabL]
theorem tabL_succ (f : Int → Int) (m : Nat) : tabL f (m + 1) = tabL f m ++ [f m] := by simp [tabL, List.range_succ]
theorem byL_tab (f : Int → Int) (m : Nat) (c : Int) (h0 : 0 ≤ c) (h : c < m) : byL (tabL f m) c = f c := by
  obtain ⟨j, rfl⟩ := Int.eq_ofNat_of_zero_le h0
  have : j < m := by omega
  simp [byL, tabL, this]
/-- diagonals of a polygon, few -/
def Dgs (n : Int) (l : List (Int × Int)) : Prop := 3 ≤ n ∧ n ≤ 12 ∧ (l.length : Int) ≤ n - 3 ∧ ∀ d ∈ l, 0 ≤ d.1 ∧ d.1 + 2 ≤ d.2 ∧ d.2 < n
theorem tri_dgs {n : Int} {l : List (Int × Int)} (h : triB n l = true) : Dgs n l := ⟨(tri_n h).1, (tri_n h).2.1, by have := (tri_n h).2.2; omega, tri_mem h⟩
theorem mvL_tab_d {n : Int} {m : Nat} (hm : n = m) {l : List (Int × Int)} (ht : Dgs n l) (f : Int → Int) : mvL (byL (tabL f m)) l = mvL f l :=
  mvL_congr fun d hd => by
    have := ht.2.2.2 d hd
    have := ht.2.1
    exact ⟨byL_tab f m _ (by omega) (by omega), byL_tab f m _ (by omega) (by omega)⟩
theorem mvL_tab {n : Int} {m : Nat} (hm : n = m) {l : List (Int × Int)} (ht : triB n l = true) (f : Int → Int) : mvL (byL (tabL f m)) l = mvL f l :=
  mvL_congr fun d hd => by
    have := tri_mem ht d hd
    exact ⟨byL_tab f m _ (by omega) (by omega), byL_tab f m _ (by omega) (by omega)⟩
/-- a polygon turned; mirrored -/
def turnL (n : Int) (l : List (Int × Int)) (k : Int) : List (Int × Int) := if (triB n l && inB k 0 (n - 1)) = true then sortD (mvL (turnF n k) l) else []
def mirrL (n : Int) (l : List (Int × Int)) : List (Int × Int) := if triB n l = true then sortD (mvL (mirrF n) l) else []
theorem sort_mv_length (f : Int → Int) (l : List (Int × Int)) : (sortD (mvL f l)).length = l.length := by rw [sortD_length, mvL_length]
theorem turnL_length (n : Int) (l : List (Int × Int)) (k : Int) : (turnL n l k).length ≤ 1000000000 := by
  unfold turnL
  split
  · rename_i h
    rw [Bool.and_eq_true] at h
    have := tri_n h.1
    rw [sort_mv_length]; omega
  · simp
theorem mirrL_length (n : Int) (l : List (Int × Int)) : (mirrL n l).length ≤ 1000000000 := by
  unfold mirrL
  split
  · rename_i h
    have := tri_n h
    rw [sort_mv_length]; omega
  · simp
end Go.Proofs.Ytfkkbjbgjmaciaa
