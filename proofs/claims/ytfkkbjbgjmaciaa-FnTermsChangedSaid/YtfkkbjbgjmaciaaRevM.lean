/- A quiddity backwards is a quiddity: any ear may be cut first. Plain mathematics. -/
import Derived.Test.YtfkkbjbgjmaciaaOfM
namespace Go.Proofs.Ytfkkbjbgjmaciaa
set_option linter.unusedVariables false

/-- f ears can be cut off, and [1, 1, 1] is left -/
def red : Nat → List Int → Bool
  | 0, l => decide (l = [1, 1, 1])
  | f + 1, l => !decide (at1 l l.length < 0) && red f (cutL l (at1 l l.length).toNat)
theorem ofI_red (f : Nat) : ∀ l cs out, (ofI f l cs out).2 = red f l := by
  induction f with
  | zero =>
    intro l cs out
    unfold ofI red
    by_cases h : l = [1, 1, 1] <;> simp [h]
  | succ f ih =>
    intro l cs out
    unfold ofI red
    by_cases h : at1 l l.length < 0
    · rw [if_pos h, decide_eq_true h]; rfl
    · rw [if_neg h, decide_eq_false h, ih]; rfl
theorem red_low {f : Nat} {l : List Int} (h : red f l = true) (hl : l.length = f + 3) (j : Nat) (hj : j < l.length) : 1 ≤ l.getD j 0 := by
  rcases Int.lt_or_le (l.getD j 0) 1 with hlt | hge
  · have := ofI_bad f l [] [] hl ⟨j, hj, .inl hlt⟩
    have h2 := ofI_red f l [] []
    rw [this, h] at h2
    cases h2
  · exact hge
theorem isQ_red {q : List Int} : isQ q = (couldB q && red (q.length - 3) q) := by
  unfold isQ triOf
  cases couldB q
  · rfl
  · rw [if_pos rfl, ofI_red]; rfl

/-- a place in the list before the ear at k was cut off -/
def upL (k j : Nat) : Nat := if j < k then j else j + 1
/-- what a place gives for the ear at k -/
def preL (m k : Nat) : Nat := if k = 0 then m - 1 else k - 1
def sucL (m k : Nat) : Nat := if k + 1 = m then 0 else k + 1
def nbL (m k p : Nat) : Int := (if p = preL m k then 1 else 0) + (if p = sucL m k then 1 else 0)
theorem up_eq (k j : Nat) : (j < k ∧ upL k j = j) ∨ (k ≤ j ∧ upL k j = j + 1) := by
  unfold upL
  by_cases h : j < k
  · rw [if_pos h]; omega
  · rw [if_neg h]; omega
theorem pre_eq (m k : Nat) : (k = 0 ∧ preL m k = m - 1) ∨ (1 ≤ k ∧ preL m k = k - 1) := by
  unfold preL
  by_cases h : k = 0
  · rw [if_pos h]; omega
  · rw [if_neg h]; omega
theorem suc_eq (m k : Nat) : (k + 1 = m ∧ sucL m k = 0) ∨ (k + 1 ≠ m ∧ sucL m k = k + 1) := by
  unfold sucL
  by_cases h : k + 1 = m
  · rw [if_pos h]; omega
  · rw [if_neg h]; omega
theorem nb_same {m k p m' k' p' : Nat} (h1 : p = preL m k ↔ p' = preL m' k') (h2 : p = sucL m k ↔ p' = sucL m' k') : nbL m k p = nbL m' k' p' := by
  unfold nbL
  simp only [h1, h2]
theorem nb_swap {m k p m' k' p' : Nat} (h1 : p = preL m k ↔ p' = sucL m' k') (h2 : p = sucL m k ↔ p' = preL m' k') : nbL m k p = nbL m' k' p' := by
  unfold nbL
  simp only [h1, h2]
  omega
theorem nb_none {m k p : Nat} (h1 : p ≠ preL m k) (h2 : p ≠ sucL m k) : nbL m k p = 0 := by
  unfold nbL
  rw [if_neg h1, if_neg h2]; rfl
theorem nb_some {m k p : Nat} (h : p = preL m k ∨ p = sucL m k) : 1 ≤ nbL m k p := by
  unfold nbL
  rcases h with h | h
  · rw [if_pos h]; split <;> omega
  · rw [if_pos h]; split <;> omega
theorem cutL_at (l : List Int) (k j : Nat) (hm : 4 ≤ l.length) (hk : k < l.length) (hj : j + 1 < l.length) : (cutL l k).getD j 0 = l.getD (upL k j) 0 - nbL l.length k (upL k j) := by
  have e1 : (k + l.length - 1) % l.length = preL l.length k := by
    unfold preL
    split
    · subst_vars; rw [Nat.zero_add]; exact Nat.mod_eq_of_lt (by omega)
    · rw [show k + l.length - 1 = (k - 1) + l.length by omega, Nat.add_mod_right]; exact Nat.mod_eq_of_lt (by omega)
  have e2 : (k + 1) % l.length = sucL l.length k := by
    unfold sucL
    split
    · rename_i h; rw [h, Nat.mod_self]
    · exact Nat.mod_eq_of_lt (by omega)
  have hp : ∀ p, p < l.length → (dec2 l k).getD p 0 = l.getD p 0 - nbL l.length k p := by
    intro p hp
    unfold dec2 nbL
    rw [decr_get _ _ _ (by rw [decr_length]; exact hp), decr_get _ _ _ hp, e1, e2]
    generalize preL l.length k = a
    generalize sucL l.length k = b
    generalize l.getD p 0 = x
    by_cases ha : a = p <;> by_cases hb : b = p <;> simp [ha, hb, eq_comm] <;> omega
  unfold cutL upL
  rw [erase_get]
  split
  · exact hp j (by omega)
  · exact hp (j + 1) (by omega)
theorem ext_getD {l r : List Int} (h : l.length = r.length) (hg : ∀ j, j < l.length → l.getD j 0 = r.getD j 0) : l = r := by
  apply List.ext_getElem h
  intro j h1 h2
  have := hg j h1
  simpa [h1, h2] using this

theorem cut_comm {l : List Int} {i k : Nat} (hm : 5 ≤ l.length) (hik : i + 1 < k) (hk : k < l.length) (hn : ¬(i = 0 ∧ k + 1 = l.length)) : cutL (cutL l i) (k - 1) = cutL (cutL l k) i := by
  have l1 := cutL_length l i (by omega)
  have l2 := cutL_length l k hk
  have l3 := cutL_length (cutL l i) (k - 1) (by omega)
  have l4 := cutL_length (cutL l k) i (by omega)
  refine ext_getD (by omega) fun j hj => ?_
  rw [cutL_at (cutL l i) (k - 1) j (by omega) (by omega) (by omega), cutL_at (cutL l k) i j (by omega) (by omega) (by omega)]
  have v1 := up_eq (k - 1) j
  have v2 := up_eq i j
  have v3 := up_eq i (upL (k - 1) j)
  have v4 := up_eq k (upL i j)
  have u1 : upL (k - 1) j + 1 < l.length := by omega
  have u2 : upL i j + 1 < l.length := by omega
  rw [cutL_at l i _ (by omega) (by omega) u1, cutL_at l k _ (by omega) (by omega) u2]
  have e : upL i (upL (k - 1) j) = upL k (upL i j) := by omega
  rw [e, l1, l2]
  rw [e] at v3
  generalize upL k (upL i j) = p at *
  generalize upL (k - 1) j = x at *
  generalize upL i j = y at *
  have p1 := pre_eq l.length i
  have p2 := pre_eq (l.length - 1) i
  have p3 := pre_eq (l.length - 1) (k - 1)
  have p4 := pre_eq l.length k
  have s1 := suc_eq l.length i
  have s2 := suc_eq (l.length - 1) i
  have s3 := suc_eq (l.length - 1) (k - 1)
  have s4 := suc_eq l.length k
  clear l1 l2 l3 l4 hj e u1 u2
  have a1 : nbL l.length i p = nbL (l.length - 1) i y := nb_same (by omega) (by omega)
  have a2 : nbL (l.length - 1) (k - 1) x = nbL l.length k p := nb_same (by omega) (by omega)
  omega
/-- the ear at i is an ear still, behind the cut at k; what is beside an ear is none -/
theorem ear_after {l : List Int} {i k : Nat} (hm : 5 ≤ l.length) (hik : i + 1 < k) (hk : k < l.length) (hn : ¬(i = 0 ∧ k + 1 = l.length)) (hi1 : l.getD i 0 = 1) (hk1 : l.getD k 0 = 1) : (cutL l k).getD i 0 = 1 ∧ (cutL l i).getD (k - 1) 0 = 1 := by
  constructor
  · rw [cutL_at l k i (by omega) hk (by omega)]
    have e : upL k i = i := by have := up_eq k i; omega
    have a : nbL l.length k i = 0 := nb_none (by have := pre_eq l.length k; omega) (by have := suc_eq l.length k; omega)
    rw [e, a, hi1]; rfl
  · rw [cutL_at l i (k - 1) (by omega) (by omega) (by omega)]
    have e : upL i (k - 1) = k := by have := up_eq i (k - 1); omega
    have a : nbL l.length i k = 0 := nb_none (by have := pre_eq l.length i; omega) (by have := suc_eq l.length i; omega)
    rw [e, a, hk1]; rfl
theorem beside_low {l : List Int} {i k : Nat} (hm : 4 ≤ l.length) (hik : i < k) (hk : k < l.length) (hn : k = i + 1 ∨ (i = 0 ∧ k + 1 = l.length)) (hi1 : l.getD i 0 = 1) (hk1 : l.getD k 0 = 1) : (cutL l k).getD i 0 ≤ 0 ∧ (cutL l i).getD (k - 1) 0 ≤ 0 := by
  constructor
  · rw [cutL_at l k i (by omega) hk (by omega)]
    have e : upL k i = i := by have := up_eq k i; omega
    have a : 1 ≤ nbL l.length k i := nb_some (by have := pre_eq l.length k; have := suc_eq l.length k; omega)
    rw [e, hi1]; omega
  · rw [cutL_at l i (k - 1) (by omega) (by omega) (by omega)]
    have e : upL i (k - 1) = k := by have := up_eq i (k - 1); omega
    have a : 1 ≤ nbL l.length i k := nb_some (by have := pre_eq l.length i; have := suc_eq l.length i; omega)
    rw [e, hk1]; omega
def AnyEar (f : Nat) : Prop := ∀ l : List Int, l.length = f + 4 → ∀ i k, i < l.length → k < l.length → l.getD i 0 = 1 → l.getD k 0 = 1 → red f (cutL l i) = true → red f (cutL l k) = true
theorem at1_some {l : List Int} {i : Nat} (hi : i < l.length) (h : l.getD i 0 = 1) : ¬at1 l l.length < 0 := by
  intro hlt
  by_cases h0 : at1 l i < 0
  · have := at1_hit l i l.length h0 h hi
    omega
  · have := at1_stay l i (l.length - i) (by omega)
    rw [show i + (l.length - i) = l.length by omega] at this
    omega
theorem red_ear {f : Nat} (S : AnyEar f) {l : List Int} (hl : l.length = f + 4) {i : Nat} (hi : i < l.length) (h1 : l.getD i 0 = 1) (h : red f (cutL l i) = true) : red (f + 1) l = true := by
  have hs := at1_some hi h1
  have h2 := at1_lt l l.length
  unfold red
  rw [decide_eq_false hs]
  simpa using S l hl i (at1 l l.length).toNat hi (by omega) h1 (at1_one l l.length (by omega)) h
theorem red_cut {f : Nat} (S : AnyEar f) {l : List Int} (hl : l.length = f + 4) {i : Nat} (hi : i < l.length) (h1 : l.getD i 0 = 1) (h : red (f + 1) l = true) : red f (cutL l i) = true := by
  have hs := at1_some hi h1
  have h2 := at1_lt l l.length
  unfold red at h
  rw [decide_eq_false hs] at h
  exact S l hl (at1 l l.length).toNat i (by omega) hi (at1_one l l.length (by omega)) h1 (by simpa using h)
theorem anyEar_zero : AnyEar 0 := by
  intro l hl i k hi hk h1 h2 h
  by_cases e : i = k
  · subst e; exact h
  have hL := cutL_length l i hi
  have hK := cutL_length l k hk
  have hlow := fun j hj => red_low h (by omega) j hj
  have hall : cutL l i = [1, 1, 1] := by unfold red at h; simpa using h
  unfold red
  have hg : ∀ j, j < 3 → (cutL l i).getD j 0 = 1 := by
    intro j hj
    rw [hall]
    have : j = 0 ∨ j = 1 ∨ j = 2 := by omega
    rcases this with rfl | rfl | rfl <;> rfl
  have hopp : k = i + 2 ∨ i = k + 2 := by
    by_cases hlt : i < k
    · by_cases hn : k = i + 1 ∨ (i = 0 ∧ k + 1 = l.length)
      · have := (beside_low (by omega) hlt hk hn h1 h2).2
        have := hg (k - 1) (by omega)
        omega
      · omega
    · by_cases hn : i = k + 1 ∨ (k = 0 ∧ i + 1 = l.length)
      · have := (beside_low (by omega) (show k < i by omega) hi hn h2 h1).1
        have := hg k (by omega)
        omega
      · omega
  have : cutL l k = [1, 1, 1] := by
    refine ext_getD (by rw [hK, hl]; rfl) fun j hj => ?_
    rw [hK, hl] at hj
    have hone : ([1, 1, 1] : List Int).getD j 0 = 1 := by
      have : j = 0 ∨ j = 1 ∨ j = 2 := by omega
      rcases this with rfl | rfl | rfl <;> rfl
    rw [hone, cutL_at l k j (by omega) hk (by omega)]
    have g0 := hg 0 (by omega)
    have g1 := hg 1 (by omega)
    have g2 := hg 2 (by omega)
    rw [cutL_at l i _ (by omega) hi (by omega)] at g0 g1 g2
    rw [hl] at g0 g1 g2 ⊢
    unfold upL nbL preL sucL at *
    have hi4 : i = 0 ∨ i = 1 ∨ i = 2 ∨ i = 3 := by omega
    have hj3 : j = 0 ∨ j = 1 ∨ j = 2 := by omega
    rcases hopp with hopp | hopp
    · subst hopp
      rcases hi4 with rfl | rfl | rfl | rfl <;> rcases hj3 with rfl | rfl | rfl <;> simp at * <;> omega
    · have hk4 : k = 0 ∨ k = 1 := by omega
      subst hopp
      rcases hk4 with rfl | rfl <;> rcases hj3 with rfl | rfl | rfl <;> simp at * <;> omega
  simpa using this
theorem anyEar (f : Nat) : AnyEar f := by
  induction f with
  | zero => exact anyEar_zero
  | succ f ih =>
    intro l hl i k hi hk h1 h2 h
    have hL := cutL_length l i hi
    have hK := cutL_length l k hk
    by_cases e : i = k
    · subst e; exact h
    have hlow := fun j hj => red_low h (by omega) j hj
    by_cases hlt : i < k
    · by_cases hn : k = i + 1 ∨ (i = 0 ∧ k + 1 = l.length)
      · have h3 := (beside_low (by omega) hlt hk hn h1 h2).2
        have h4 := hlow (k - 1) (by omega)
        omega
      · obtain ⟨e1, e2⟩ := ear_after (by omega) (by omega) hk (by omega) h1 h2
        have hc := cut_comm (by omega) (show i + 1 < k by omega) hk (by omega)
        have h3 := red_cut ih (by omega) (i := k - 1) (by omega) e2 h
        rw [hc] at h3
        exact red_ear ih (by omega) (i := i) (by omega) e1 h3
    · by_cases hn : i = k + 1 ∨ (k = 0 ∧ i + 1 = l.length)
      · have h3 := (beside_low (by omega) (show k < i by omega) hi hn h2 h1).1
        have h4 := hlow k (by omega)
        omega
      · obtain ⟨e1, e2⟩ := ear_after (by omega) (show k + 1 < i by omega) hi (by omega) h2 h1
        have hc := cut_comm (by omega) (show k + 1 < i by omega) hi (by omega)
        have h3 := red_cut ih (by omega) (i := k) (by omega) e1 h
        rw [← hc] at h3
        exact red_ear ih (by omega) (i := i - 1) (by omega) e2 h3

theorem rev_getD (l : List Int) (j : Nat) (hj : j < l.length) : l.reverse.getD j 0 = l.getD (l.length - 1 - j) 0 := by
  have h2 : l.length - 1 - j < l.length := by omega
  simp [hj, h2, List.getElem_reverse]
theorem cut_rev {l : List Int} {k : Nat} (hm : 4 ≤ l.length) (hk : k < l.length) : cutL l.reverse (l.length - 1 - k) = (cutL l k).reverse := by
  have hr : l.reverse.length = l.length := List.length_reverse
  have hL := cutL_length l k hk
  have hR := cutL_length l.reverse (l.length - 1 - k) (by omega)
  refine ext_getD (by rw [List.length_reverse]; omega) fun j hj => ?_
  rw [rev_getD _ _ (by omega), cutL_at l.reverse _ j (by omega) (by omega) (by omega), cutL_at l k _ hm hk (by omega), hL, hr]
  have v1 := up_eq (l.length - 1 - k) j
  have v2 := up_eq k (l.length - 1 - 1 - j)
  rw [List.length_reverse] at hR hr
  have hu : upL (l.length - 1 - k) j < l.length := by omega
  rw [rev_getD _ _ hu]
  have e : l.length - 1 - upL (l.length - 1 - k) j = upL k (l.length - 1 - 1 - j) := by omega
  have p1 := pre_eq l.length k
  have p2 := pre_eq l.length (l.length - 1 - k)
  have s1 := suc_eq l.length k
  have s2 := suc_eq l.length (l.length - 1 - k)
  have a : nbL l.length (l.length - 1 - k) (upL (l.length - 1 - k) j) = nbL l.length k (upL k (l.length - 1 - 1 - j)) := nb_swap (by omega) (by omega)
  rw [e, a]
theorem red_rev (f : Nat) : ∀ l : List Int, l.length = f + 3 → red f l = true → red f l.reverse = true := by
  induction f with
  | zero =>
    intro l _ h
    have : l = [1, 1, 1] := by unfold red at h; simpa using h
    subst this
    rfl
  | succ f ih =>
    intro l hl h
    unfold red at h
    rw [Bool.and_eq_true] at h
    obtain ⟨h0, h1⟩ := h
    have h2 := at1_lt l l.length
    have hs : ¬at1 l l.length < 0 := by simpa using h0
    have h3 := at1_one l l.length (by omega)
    generalize hk : (at1 l l.length).toNat = k at *
    have hkl : k < l.length := by omega
    have h4 := ih _ (by rw [cutL_length l k hkl]; omega) h1
    rw [← cut_rev (by omega) hkl] at h4
    refine red_ear (anyEar f) (by rw [List.length_reverse]; exact hl) (i := l.length - 1 - k) (by rw [List.length_reverse]; omega) ?_ h4
    rw [rev_getD _ _ (by omega), show l.length - 1 - (l.length - 1 - k) = k by omega]
    exact h3
/-- a quiddity backwards is one -/
theorem isQ_rev {q : List Int} (h : isQ q = true) : isQ q.reverse = true := by
  have hl := isQ_len h
  rw [isQ_red] at h ⊢
  rw [Bool.and_eq_true] at h ⊢
  obtain ⟨h1, h2⟩ := h
  refine ⟨?_, ?_⟩
  · unfold couldB allB at h1 ⊢
    rw [List.length_reverse, List.all_reverse]
    exact h1
  · rw [List.length_reverse]
    exact red_rev _ q (by omega) h2
end Go.Proofs.Ytfkkbjbgjmaciaa
