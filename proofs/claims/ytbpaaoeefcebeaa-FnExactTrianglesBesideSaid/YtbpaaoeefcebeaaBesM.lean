/- Triangles beside each other: lists; a row that grows while it lies in a list of rows. -/
import Derived.Test.YtbpaaoeefcebeaaTrgM
import Derived.Test.YtbpaaoeefcebeaaApp
namespace Go.Proofs.Ytbpaaoeefcebeaa
set_option linter.unusedVariables false
open Go.RowKit

theorem tc_mono {J : Nat → Nat → Bool} (a b : Nat) : ∀ m, (tcR J a b m).length ≤ (tcR (fun _ _ => true) a b m).length
  | 0 => Nat.le_refl _
  | m + 1 => by
    have ih := tc_mono (J := J) a b m
    cases h : tOk J a b m
    · rw [tc_miss h]
      cases h2 : tOk (fun _ _ => true) a b m
      · rw [tc_miss h2]; exact ih
      · rw [tc_hit h2, List.length_append]; omega
    · have h2 : tOk (fun _ _ => true) a b m = true := by
        unfold tOk at h ⊢
        rw [Bool.and_eq_true] at h
        rw [h.1]; rfl
      rw [tc_hit h, tc_hit h2, List.length_append, List.length_append]
      simpa using ih
theorem tb_mono {J : Nat → Nat → Bool} (n a : Nat) : ∀ m, (tbR J n a m).length ≤ (tbR (fun _ _ => true) n a m).length
  | 0 => Nat.le_refl _
  | m + 1 => by
    have ih := tb_mono (J := J) n a m
    by_cases h : a < m
    · rw [tb_succ h, tb_succ h, List.length_append, List.length_append]
      have := tc_mono (J := J) a m n
      omega
    · rw [tb_low (m + 1) (by omega)]; simp
theorem ta_mono {J : Nat → Nat → Bool} (n : Nat) : ∀ m, (taR J n m).length ≤ (taR (fun _ _ => true) n m).length
  | 0 => Nat.le_refl _
  | m + 1 => by
    have ih := ta_mono (J := J) n m
    have := tb_mono (J := J) n m n
    rw [ta_succ, ta_succ, List.length_append, List.length_append]
    omega
theorem ta_220 : ∀ n : Fin 13, (taR (fun _ _ => true) n n).length ≤ 220 := by decide +kernel
theorem trgR_220 (n : Int) (l : List (Int × Int)) : (trgR n l).length ≤ 220 := by
  cases h : triB n l
  · rw [trgR_no h]; simp
  · have hn := tri_n h
    obtain ⟨m, rfl⟩ := Int.eq_ofNat_of_zero_le (show 0 ≤ n by omega)
    rw [trgR_yes h]
    have h1 := ta_mono (J := jn m l) m m
    have h2 := ta_220 ⟨m, by omega⟩
    exact Nat.le_trans h1 h2

/-- how many of the first k of a list are in another one -/
def shK (a b : List Int) (k : Nat) : Nat := ((a.take k).filter fun x => decide (x ∈ b)).length
theorem shK_step {a b : List Int} {k : Nat} {r : Bool} (hk : k < a.length) (h : decide (a.getD k 0 ∈ b) = r) : shK a b (k + 1) = shK a b k + (if r = true then 1 else 0) := by
  have e : a.getD k 0 = a[k] := by simp [hk]
  rw [e] at h
  unfold shK
  rw [List.take_succ_eq_append_getElem hk, List.filter_append, List.length_append]
  congr 1
  rw [List.filter_cons, List.filter_nil, h]
  cases r <;> rfl
theorem shK_le (a b : List Int) (k : Nat) : shK a b k ≤ k := by
  unfold shK
  refine Nat.le_trans (List.length_filter_le _ _) ?_
  simp; omega
theorem shK_self (a : List Int) : shK a a a.length = a.length := by
  unfold shK
  rw [List.take_length, List.filter_eq_self.2 (fun x hx => by simpa using hx)]
/-- the first j of the triangles that lie beside the i-th one -/
def bsOk (T : List (List Int)) (i j : Nat) : Bool := decide (shK (rowOf T i) (rowOf T j) (rowOf T i).length = 2)
def besK (T : List (List Int)) (i j : Nat) : List Int := ((List.range j).filter (bsOk T i)).map fun (t : Nat) => (t : Int)
theorem bes_hit {T : List (List Int)} {i j : Nat} (h : bsOk T i j = true) : besK T i (j + 1) = besK T i j ++ [(j : Int)] := by
  unfold besK
  rw [List.range_succ, List.filter_append, List.map_append]
  simp [h]
theorem bes_miss {T : List (List Int)} {i j : Nat} (h : bsOk T i j = false) : besK T i (j + 1) = besK T i j := by
  unfold besK
  rw [List.range_succ, List.filter_append, List.map_append]
  simp [h]
theorem bes_len (T : List (List Int)) (i j : Nat) : (besK T i j).length ≤ j := by
  unfold besK
  rw [List.length_map]
  refine Nat.le_trans (List.length_filter_le _ _) ?_
  simp
/-- the rows so far; the rows in the making -/
def besL (T : List (List Int)) (m k : Nat) : List (List Int) := (List.range k).map fun i => besK T i m
theorem besL_succ (T : List (List Int)) (m k : Nat) : besL T m (k + 1) = besL T m k ++ [besK T k m] := by simp [besL, List.range_succ]
theorem besL_length (T : List (List Int)) (m k : Nat) : (besL T m k).length = k := by simp [besL]
def besH (T : List (List Int)) (m k : Nat) : List (List Int) := (List.range m).map fun i => if i < k then besK T i m else []
theorem besH_length (T : List (List Int)) (m k : Nat) : (besH T m k).length = m := by simp [besH]
theorem besH_row (T : List (List Int)) (m k j : Nat) (h : j < m) : rowOf (besH T m k) j = if j < k then besK T j m else [] := by
  unfold rowOf besH
  simp [h]
theorem besH_zero (T : List (List Int)) (m : Nat) : besH T m 0 = List.replicate m [] := by
  unfold besH
  apply List.ext_getElem
  · simp
  · intro i h1 h2; simp
theorem besH_all (T : List (List Int)) (m : Nat) : besH T m m = besL T m m := by
  unfold besH besL
  exact List.map_congr_left fun i hi => by rw [if_pos (List.mem_range.1 hi)]
theorem besH_set (T : List (List Int)) (m k : Nat) : (besH T m k).set k (besK T k m) = besH T m (k + 1) := by
  apply List.ext_getElem
  · simp [besH]
  · intro i h1 h2
    simp only [List.getElem_set, besH, List.getElem_map, List.getElem_range]
    by_cases e : k = i
    · subst e; simp
    · rw [if_neg e]
      by_cases h : i < k
      · rw [if_pos h, if_pos (by omega)]
      · rw [if_neg h, if_neg (by omega)]
/-- what TrianglesBeside tells -/
def bsdR (n : Int) (l : List (Int × Int)) : List (List Int) := besL (trgR n l) (trgR n l).length (trgR n l).length
theorem bsdR_length (n : Int) (l : List (Int × Int)) : (bsdR n l).length = (trgR n l).length := besL_length _ _ _
theorem bsdR_row (n : Int) (l : List (Int × Int)) (j : Nat) (hj : j < (bsdR n l).length) : (rowOf (bsdR n l) j).length ≤ 220 := by
  rw [bsdR_length] at hj
  have : rowOf (bsdR n l) j = besK (trgR n l) j (trgR n l).length := by
    unfold rowOf bsdR besL
    simp [hj]
  rw [this]
  exact Nat.le_trans (bes_len _ _ _) (trgR_220 n l)
theorem bsdR_pre (n : Int) (l : List (Int × Int)) : pre (bsdR n l) (bsdR n l).length ≤ 1000000 := by
  have h1 := pre_bd (bsdR n l) 220 (fun j hj => bsdR_row n l j hj) _ (Nat.le_refl _)
  have h2 := trgR_220 n l
  rw [bsdR_length] at h1 ⊢
  have : (trgR n l).length * 220 ≤ 220 * 220 := Nat.mul_le_mul_right 220 h2
  omega

theorem rvOf_set (rs : List Value) (t : Nat) (r : Value) (j : Nat) : rvOf (rs.set t r) j = if j = t then (if t < rs.length then r else .slice none 0 0) else rvOf rs j := by
  unfold rvOf
  simp only [List.getD_eq_getElem?_getD, List.getElem?_set]
  by_cases e : t = j
  · subst e
    by_cases h : t < rs.length <;> simp [h]
  · rw [if_neg e, if_neg (fun x => e x.symm)]
theorem rowOf_set (Ls : List (List Int)) (t : Nat) (L : List Int) (ht : t < Ls.length) (j : Nat) : rowOf (Ls.set t L) j = if j = t then L else rowOf Ls j := by
  unfold rowOf
  simp only [List.getD_eq_getElem?_getD, List.getElem?_set]
  by_cases e : t = j
  · subst e; simp [ht]
  · rw [if_neg e, if_neg (fun x => e x.symm)]
/-- a row that was in the making, in its place -/
theorem OwnSS.put {w : World} {base g c m i b : Nat} {rs0 : List Value} {Ls0 : List (List Int)} {r : Value} {L : List Int} (hl : rs0.length = m) (hm : Ls0.length = m) (hi : i < m)
    (ho : w.ownsRow base 56 1 (.slice (some ⟨g, 0, none⟩) m c) m (rs0.set i r)) (hold : ∀ t, t < m → t ≠ i → w.ownsRow base 3 1 (rvOf rs0 t) (rowOf Ls0 t).length (ics (rowOf Ls0 t)))
    (hob : ∀ t, t < m → t ≠ i → ∀ k, (rvOf rs0 t).ownBlock = some k → k < b) (hd : ∀ s t, s < m → t < m → s ≠ t → ∀ k, (rvOf rs0 s).ownBlock = some k → some k ≠ (rvOf rs0 t).ownBlock)
    (hnew : w.ownsRow base 3 1 r L.length (ics L)) (hb : ∀ k, r.ownBlock = some k → b ≤ k) : OwnSS w base (some ⟨g, 0, none⟩) c (rs0.set i r) (Ls0.set i L) := by
  refine ⟨by simp [hl, hm], by rw [List.length_set, hm]; exact ho, fun j hj => ?_, fun s t hs ht hst k hk => ?_⟩
  · rw [List.length_set, hm] at hj
    rw [rvOf_set, rowOf_set _ _ _ (by omega)]
    by_cases e : j = i
    · rw [if_pos e, if_pos e, if_pos (by omega)]; exact hnew
    · rw [if_neg e, if_neg e]; exact hold j hj e
  · rw [List.length_set, hm] at hs ht
    rw [rvOf_set] at hk
    rw [rvOf_set]
    by_cases e1 : s = i
    · rw [if_pos e1, if_pos (by omega)] at hk
      rw [if_neg (by omega)]
      intro e
      have h1 := hob t ht (by omega) k e.symm
      have h2 := hb k hk
      omega
    · rw [if_neg e1] at hk
      by_cases e2 : t = i
      · rw [if_pos e2, if_pos (by omega)]
        intro e
        have h1 := hob s hs e1 k hk
        have h2 := hb k e.symm
        omega
      · rw [if_neg e2]; exact hd s t hs ht hst k hk
end Go.Proofs.Ytbpaaoeefcebeaa
