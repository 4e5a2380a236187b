/- Ears cut off a list of numbers, again and again: plain mathematics; the model's way (which stops at a number below 1) and the program's tell the same. -/
import Derived.Test.YtfkkbjbgjmaciaaSortM
namespace Go.Proofs.Ytfkkbjbgjmaciaa
set_option linter.unusedVariables false

/-- the place of the first 1 among the first k numbers, or -1 -/
def at1 (l : List Int) : Nat → Int
  | 0 => -1
  | k + 1 => if l.getD k 0 = 1 ∧ at1 l k < 0 then (k : Int) else at1 l k
theorem at1_lt (l : List Int) (k : Nat) : -1 ≤ at1 l k ∧ at1 l k < k := by
  induction k with
  | zero => simp [at1]
  | succ k ih => unfold at1; split <;> omega
theorem at1_one (l : List Int) (k : Nat) (h : 0 ≤ at1 l k) : l.getD (at1 l k).toNat 0 = 1 := by
  induction k with
  | zero => simp [at1] at h
  | succ k ih =>
    unfold at1 at h ⊢
    split
    · rename_i hc
      simp only [Int.toNat_natCast]
      exact hc.1
    · rename_i hc
      rw [if_neg hc] at h
      exact ih h
theorem at1_stay (l : List Int) (k j : Nat) (h : 0 ≤ at1 l k) : at1 l (k + j) = at1 l k := by
  induction j with
  | zero => rfl
  | succ j ih =>
    rw [← Nat.add_assoc]
    conv => lhs; unfold at1
    rw [if_neg (by omega)]
    exact ih
theorem at1_hit (l : List Int) (k m : Nat) (h : at1 l k < 0) (hx : l.getD k 0 = 1) (hm : k < m) : at1 l m = (k : Int) := by
  have e : at1 l (k + 1) = (k : Int) := by
    unfold at1
    rw [if_pos ⟨hx, h⟩]
  obtain ⟨j, rfl⟩ : ∃ j, m = k + 1 + j := ⟨m - (k + 1), by omega⟩
  rw [at1_stay l (k + 1) j (by omega), e]
theorem at1_miss (l : List Int) (k : Nat) (hx : l.getD k 0 ≠ 1) : at1 l (k + 1) = at1 l k := by
  conv => lhs; unfold at1
  rw [if_neg (by intro h; exact hx h.1)]

/-- one less at a place -/
def decr (l : List Int) (i : Nat) : List Int := l.set i (l.getD i 0 - 1)
theorem decr_length (l : List Int) (i : Nat) : (decr l i).length = l.length := by simp [decr]
theorem decr_get (l : List Int) (i j : Nat) (hj : j < l.length) : (decr l i).getD j 0 = if i = j then l.getD j 0 - 1 else l.getD j 0 := by
  unfold decr
  simp only [List.getD_eq_getElem?_getD, List.getElem?_set]
  by_cases e : i = j
  · subst e; simp [hj]
  · simp [e]
/-- both neighbours, around, one less -/
def dec2 (l : List Int) (k : Nat) : List Int := decr (decr l ((k + l.length - 1) % l.length)) ((k + 1) % l.length)
theorem dec2_length (l : List Int) (k : Nat) : (dec2 l k).length = l.length := by simp [dec2, decr_length]
/-- the ear at k cut off -/
def cutL (l : List Int) (k : Nat) : List Int := (dec2 l k).eraseIdx k
theorem cutL_length (l : List Int) (k : Nat) (h : k < l.length) : (cutL l k).length = l.length - 1 := by
  simp [cutL, List.length_eraseIdx, dec2_length, h]
theorem erase_get (l : List Int) (k j : Nat) : (l.eraseIdx k).getD j 0 = if j < k then l.getD j 0 else l.getD (j + 1) 0 := by
  simp only [List.getD_eq_getElem?_getD, List.getElem?_eraseIdx]
  split <;> rfl

theorem around (k m : Nat) (hm : 4 ≤ m) (hk : k < m) : (k + m - 1) % m < m ∧ (k + 1) % m < m ∧ (k + m - 1) % m ≠ k ∧ (k + 1) % m ≠ k ∧ (k + m - 1) % m ≠ (k + 1) % m := by
  have e1 : (k + m - 1) % m = if k = 0 then m - 1 else k - 1 := by
    split
    · subst_vars; rw [Nat.zero_add]; exact Nat.mod_eq_of_lt (by omega)
    · rw [show k + m - 1 = (k - 1) + m by omega, Nat.add_mod_right]; exact Nat.mod_eq_of_lt (by omega)
  have e2 : (k + 1) % m = if k + 1 = m then 0 else k + 1 := by
    split
    · rename_i h; rw [h, Nat.mod_self]
    · exact Nat.mod_eq_of_lt (by omega)
  rw [e1, e2]
  split <;> split <;> omega
theorem dec2_get (l : List Int) (k j : Nat) (hm : 4 ≤ l.length) (hk : k < l.length) (hj : j < l.length) : l.getD j 0 - 1 ≤ (dec2 l k).getD j 0 ∧ (dec2 l k).getD j 0 ≤ l.getD j 0 := by
  obtain ⟨_, _, _, _, hne⟩ := around k l.length hm hk
  unfold dec2
  rw [decr_get _ _ _ (by rw [decr_length]; exact hj), decr_get _ _ _ hj]
  split <;> split <;> omega
/-- each number that isn't the ear goes on, at most one less -/
theorem cutL_has (l : List Int) (k i : Nat) (hm : 4 ≤ l.length) (hk : k < l.length) (hi : i < l.length) (hne : i ≠ k) : ∃ j, j < (cutL l k).length ∧ (cutL l k).getD j 0 = (dec2 l k).getD i 0 := by
  rw [cutL_length l k hk]
  unfold cutL
  by_cases h : i < k
  · exact ⟨i, by omega, by rw [erase_get, if_pos h]⟩
  · refine ⟨i - 1, by omega, ?_⟩
    rw [erase_get, if_neg (by omega), show i - 1 + 1 = i by omega]
theorem cutL_from (l : List Int) (k j : Nat) (hk : k < l.length) (hj : j < (cutL l k).length) : ∃ i, i < l.length ∧ i ≠ k ∧ (cutL l k).getD j 0 = (dec2 l k).getD i 0 := by
  rw [cutL_length l k hk] at hj
  unfold cutL
  by_cases h : j < k
  · exact ⟨j, by omega, by omega, by rw [erase_get, if_pos h]⟩
  · exact ⟨j + 1, by omega, by omega, by rw [erase_get, if_neg h]⟩

/-- the diagonal that an ear is cut off by -/
def earD (cs : List Int) (m k : Nat) : Int × Int :=
  (min (cs.getD ((k + m - 1) % m) 0) (cs.getD ((k + 1) % m) 0), max (cs.getD ((k + m - 1) % m) 0) (cs.getD ((k + 1) % m) 0))

/-- the program's way: f ears are cut off -/
def ofI : Nat → List Int → List Int → List (Int × Int) → List (Int × Int) × Bool
  | 0, l, _, out => if l = [1, 1, 1] then (sortD out, true) else ([], false)
  | f + 1, l, cs, out => if at1 l l.length < 0 then ([], false) else
      ofI f (cutL l (at1 l l.length).toNat) (cs.eraseIdx (at1 l l.length).toNat) (out ++ [earD cs l.length (at1 l l.length).toNat])
/-- some number falls below 1 beside the ear at k -/
def lowB (l : List Int) (k : Nat) : Bool := decide ((dec2 l k).getD ((k + l.length - 1) % l.length) 0 < 1 ∨ (dec2 l k).getD ((k + 1) % l.length) 0 < 1)
/-- the model's way -/
def ofS : Nat → List Int → List Int → List (Int × Int) → List (Int × Int) × Bool
  | 0, l, _, out => (sortD out, decide (l = [1, 1, 1]))
  | f + 1, l, cs, out => if at1 l l.length < 0 then ([], false) else if lowB l (at1 l l.length).toNat = true then ([], false) else
      ofS f (cutL l (at1 l l.length).toNat) (cs.eraseIdx (at1 l l.length).toNat) (out ++ [earD cs l.length (at1 l l.length).toNat])
def norm (r : List (Int × Int) × Bool) : List (Int × Int) × Bool := if r.2 = true then r else ([], false)

theorem ofI_bad (f : Nat) : ∀ (l cs : List Int) (out : List (Int × Int)), l.length = f + 3 → (∃ i, i < l.length ∧ (l.getD i 0 < 1 ∨ (f : Int) + 1 < l.getD i 0)) → ofI f l cs out = ([], false) := by
  induction f with
  | zero =>
    intro l cs out hl ⟨i, hi, hx⟩
    unfold ofI
    rw [if_neg]
    rintro rfl
    have : i = 0 ∨ i = 1 ∨ i = 2 := by simp at hi; omega
    rcases this with rfl | rfl | rfl <;> simp at hx
  | succ f ih =>
    intro l cs out hl ⟨i, hi, hx⟩
    unfold ofI
    by_cases h : at1 l l.length < 0
    · rw [if_pos h]
    · rw [if_neg h]
      have h1 := at1_one l l.length (by omega)
      have h2 := at1_lt l l.length
      have hk : (at1 l l.length).toNat < l.length := by omega
      generalize (at1 l l.length).toNat = k at *
      have hne : i ≠ k := by rintro rfl; rw [h1] at hx; omega
      obtain ⟨j, hj, e⟩ := cutL_has l k i (by omega) hk hi hne
      have hd := dec2_get l k i (by omega) hk hi
      refine ih _ _ _ (by rw [cutL_length l k hk]; omega) ⟨j, hj, ?_⟩
      rw [e]
      omega
theorem ofS_ofI (f : Nat) : ∀ (l cs : List Int) (out : List (Int × Int)), l.length = f + 3 → (∀ i, i < l.length → 1 ≤ l.getD i 0) → norm (ofS f l cs out) = ofI f l cs out := by
  induction f with
  | zero =>
    intro l cs out hl _
    unfold ofS ofI norm
    by_cases h : l = [1, 1, 1] <;> simp [h]
  | succ f ih =>
    intro l cs out hl hx
    unfold ofS ofI
    by_cases h : at1 l l.length < 0
    · rw [if_pos h, if_pos h]; rfl
    · rw [if_neg h, if_neg h]
      have h1 := at1_one l l.length (by omega)
      have h2 := at1_lt l l.length
      have hk : (at1 l l.length).toNat < l.length := by omega
      generalize (at1 l l.length).toNat = k at *
      obtain ⟨a1, a2, a3, a4, a5⟩ := around k l.length (by omega) hk
      have hcl : (cutL l k).length = f + 3 := by rw [cutL_length l k hk]; omega
      cases hlow : lowB l k
      · simp only [Bool.false_eq_true, if_false]
        refine ih _ _ _ hcl (fun j hj => ?_)
        obtain ⟨i, hi, hne, e⟩ := cutL_from l k j hk hj
        rw [e]
        unfold lowB at hlow
        simp only [decide_eq_false_iff_not, not_or] at hlow
        by_cases e1 : i = (k + l.length - 1) % l.length
        · rw [e1]; omega
        · by_cases e2 : i = (k + 1) % l.length
          · rw [e2]; omega
          · have := hx i hi
            unfold dec2
            rw [decr_get _ _ _ (by rw [decr_length]; exact hi), decr_get _ _ _ hi, if_neg (by omega), if_neg (by omega)]
            exact this
      · simp only [if_true]
        symm
        refine ofI_bad f _ _ _ hcl ?_
        unfold lowB at hlow
        simp only [decide_eq_true_eq] at hlow
        rcases hlow with hlow | hlow
        · obtain ⟨j, hj, e⟩ := cutL_has l k _ (by omega) hk a1 a3
          exact ⟨j, hj, .inl (by rw [e]; exact hlow)⟩
        · obtain ⟨j, hj, e⟩ := cutL_has l k _ (by omega) hk a2 a4
          exact ⟨j, hj, .inl (by rw [e]; exact hlow)⟩

/-- 0, 1, 2, .. -/
def iota (n : Nat) : List Int := (List.range n).map fun (i : Nat) => (i : Int)
theorem iota_length (n : Nat) : (iota n).length = n := by simp [iota]
theorem iota_get (n j : Nat) (h : j < n) : (iota n).getD j 0 = (j : Int) := by simp [iota, h]
theorem iota_succ (n : Nat) : iota (n + 1) = iota n ++ [(n : Int)] := by simp [iota, List.range_succ]
theorem iota_take (n k : Nat) (h : k ≤ n) : (iota n).take k = iota k := by
  unfold iota
  rw [← List.map_take, List.take_range, Nat.min_eq_left h]

/-- the numbers lie within bounds -/
def allB (l : List Int) (lo hi : Int) : Bool := l.all fun x => decide (lo ≤ x ∧ x ≤ hi)
theorem allB_iff {l : List Int} {lo hi : Int} : allB l lo hi = true ↔ ∀ i, i < l.length → lo ≤ l.getD i 0 ∧ l.getD i 0 ≤ hi := by
  unfold allB
  rw [List.all_eq_true]
  constructor
  · intro h i hi
    have := h _ (List.getElem_mem hi)
    simp at this
    simpa [hi] using this
  · intro h x hx
    obtain ⟨i, hi, rfl⟩ := List.getElem_of_mem hx
    have := h i hi
    simp [hi] at this
    simpa using this
/-- it could be a quiddity -/
def couldB (q : List Int) : Bool := poB q.length && allB q 1 ((q.length : Int) - 2)
/-- the triangulation with a quiddity, if there is one -/
def triOf (q : List Int) : List (Int × Int) × Bool := if couldB q = true then ofI (q.length - 3) q (iota q.length) [] else ([], false)
/-- what the model's helper tells -/
def poOfS (q : List Int) : List (Int × Int) × Bool := if poB q.length = true ∧ allB q 1 12 = true then ofS (q.length - 3) q (iota q.length) [] else ([], false)
theorem norm_poOfS (q : List Int) : norm (poOfS q) = triOf q := by
  unfold poOfS triOf couldB
  by_cases hp : poB q.length = true
  · have hn : 3 ≤ (q.length : Int) ∧ (q.length : Int) ≤ 12 := by unfold poB at hp; simpa using hp
    by_cases ha : allB q 1 12 = true
    · rw [if_pos ⟨hp, ha⟩]
      rw [ofS_ofI _ _ _ _ (by omega) (fun i hi => (allB_iff.1 ha i hi).1)]
      cases hc : allB q 1 ((q.length : Int) - 2)
      · rw [if_neg (by simp)]
        have : ∃ i, i < q.length ∧ ¬ (1 ≤ q.getD i 0 ∧ q.getD i 0 ≤ (q.length : Int) - 2) := by
          by_cases hx : ∃ i, i < q.length ∧ ¬ (1 ≤ q.getD i 0 ∧ q.getD i 0 ≤ (q.length : Int) - 2)
          · exact hx
          · exfalso
            have : allB q 1 ((q.length : Int) - 2) = true := allB_iff.2 (fun i hi => Classical.byContradiction fun hn => hx ⟨i, hi, hn⟩)
            rw [hc] at this
            cases this
        obtain ⟨i, hi, hx⟩ := this
        exact ofI_bad _ _ _ _ (by omega) ⟨i, hi, by omega⟩
      · rw [if_pos (by simp [hp])]
    · rw [if_neg (by intro h; exact ha h.2)]
      have hc : allB q 1 ((q.length : Int) - 2) = false := by
        cases hc : allB q 1 ((q.length : Int) - 2)
        · rfl
        · exact absurd (allB_iff.2 (fun i hi => by have := allB_iff.1 hc i hi; omega)) ha
      rw [hc]
      simp [norm]
  · rw [if_neg (by intro h; exact hp h.1), if_neg (by simp [hp])]
    rfl
theorem norm_snd (r : List (Int × Int) × Bool) : (norm r).2 = r.2 := by
  unfold norm
  split
  · rfl
  · rename_i h; simpa using (Bool.not_eq_true _ ▸ h : r.2 = false).symm
/-- a list is a quiddity -/
def isQ (q : List Int) : Bool := (triOf q).2
theorem isQ_poOfS (q : List Int) : (poOfS q).2 = isQ q := by rw [isQ, ← norm_poOfS, norm_snd]
theorem isQ_len {q : List Int} (h : isQ q = true) : 3 ≤ q.length ∧ q.length ≤ 12 := by
  unfold isQ triOf at h
  split at h
  · rename_i hc
    unfold couldB poB at hc
    simp at hc
    omega
  · simp at h
theorem isQ_get {q : List Int} (h : isQ q = true) (i : Nat) (hi : i < q.length) : 1 ≤ q.getD i 0 ∧ q.getD i 0 ≤ (q.length : Int) - 2 := by
  unfold isQ triOf at h
  split at h
  · rename_i hc
    unfold couldB at hc
    rw [Bool.and_eq_true] at hc
    exact allB_iff.1 hc.2 i hi
  · simp at h
theorem triOf_no {q : List Int} (h : isQ q = false) : triOf q = ([], false) := by
  have e := norm_poOfS q
  rw [← e]
  unfold norm
  rw [isQ_poOfS, h]
  rfl
theorem ofI_length (f : Nat) : ∀ l cs out, (ofI f l cs out).1.length ≤ out.length + f := by
  induction f with
  | zero =>
    intro l cs out
    unfold ofI
    split
    · rw [sortD_length]; omega
    · simp
  | succ f ih =>
    intro l cs out
    unfold ofI
    split
    · simp
    · have := ih (cutL l (at1 l l.length).toNat) (cs.eraseIdx (at1 l l.length).toNat) (out ++ [earD cs l.length (at1 l l.length).toNat])
      simp at this
      omega
theorem triOf_length (q : List Int) : (triOf q).1.length ≤ 1000000000 := by
  cases h : isQ q
  · rw [triOf_no h]; simp
  · have := isQ_len h
    unfold triOf
    split
    · have := ofI_length (q.length - 3) q (iota q.length) []
      simp at this
      omega
    · simp
end Go.Proofs.Ytfkkbjbgjmaciaa
