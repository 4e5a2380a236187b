/- Pieces of a cut: their order, the model's way along a piece, the model's list of them. -/
import Derived.Test.YtlnnnjnboknoeaaPcM
namespace Go.Proofs.Ytlnnnjnboknoeaa
set_option linter.unusedVariables false

/-- lexicographic order of lists of numbers -/
def ltP : List Int → List Int → Bool
  | [], [] => false
  | [], _ :: _ => true
  | _ :: _, [] => false
  | a :: r, b :: s => if a = b then ltP r s else decide (a < b)
theorem ltP_irr : ∀ l : List Int, ltP l l = false
  | [] => rfl
  | a :: r => by unfold ltP; rw [if_pos rfl]; exact ltP_irr r
theorem ltP_trans : ∀ a b c : List Int, ltP a b = true → ltP b c = true → ltP a c = true
  | [], [], _, h, _ => by simp [ltP] at h
  | [], _ :: _, [], _, h => by simp [ltP] at h
  | [], _ :: _, _ :: _, _, _ => rfl
  | _ :: _, [], _, h, _ => by simp [ltP] at h
  | _ :: _, _ :: _, [], _, h => by simp [ltP] at h
  | x :: a, y :: b, z :: c, h3, h4 => by
    unfold ltP at h3 h4 ⊢
    by_cases e1 : x = y
    · subst e1
      rw [if_pos rfl] at h3
      by_cases e2 : x = z
      · subst e2
        rw [if_pos rfl] at h4 ⊢
        exact ltP_trans a b c h3 h4
      · rw [if_neg e2] at h4 ⊢; exact h4
    · rw [if_neg e1, decide_eq_true_eq] at h3
      by_cases e2 : y = z
      · subst e2
        rw [if_neg e1, decide_eq_true_eq]; exact h3
      · rw [if_neg e2, decide_eq_true_eq] at h4
        rw [if_neg (by omega), decide_eq_true_eq]; omega
theorem ltP_total : ∀ a b : List Int, ltP a b = false → ltP b a = false → a = b
  | [], [], _, _ => rfl
  | [], _ :: _, h, _ => by simp [ltP] at h
  | _ :: _, [], _, h => by simp [ltP] at h
  | x :: a, y :: b, h1, h2 => by
    unfold ltP at h1 h2
    by_cases e : x = y
    · subst e
      rw [if_pos rfl] at h1 h2
      rw [ltP_total a b h1 h2]
    · rw [if_neg e, decide_eq_false_iff_not] at h1
      rw [if_neg (fun e2 => e e2.symm), decide_eq_false_iff_not] at h2
      omega
theorem leQ_trans {a b c : List Int} (h1 : ltP b a = false) (h2 : ltP c b = false) : ltP c a = false := by
  cases h : ltP c a
  · rfl
  · by_cases hbc : ltP b c = true
    · have := ltP_trans _ _ _ hbc h; rw [h1] at this; cases this
    · have e := ltP_total b c (by simpa using hbc) h2
      rw [e, h] at h1; cases h1
/-- in order -/
def SortP (S : List (List Int)) : Prop := S.Pairwise fun a b => ltP b a = false
theorem sortP_unique {S T : List (List Int)} (hp : S.Perm T) (hs : SortP S) (ht : SortP T) : S = T :=
  List.Perm.eq_of_pairwise (le := fun a b => ltP b a = false) (fun a b _ _ h1 h2 => ltP_total a b h2 h1) hs ht hp
/-- put in its place -/
def posP (x : List Int) (S : List (List Int)) : Nat := (S.takeWhile fun y => ltP y x).length
def insP (x : List Int) (S : List (List Int)) : List (List Int) := S.take (posP x S) ++ x :: S.drop (posP x S)
theorem posP_le (x : List Int) (S : List (List Int)) : posP x S ≤ S.length := by
  unfold posP
  exact (List.takeWhile_sublist _).length_le
theorem posP_take (x : List Int) (S : List (List Int)) : S.take (posP x S) = S.takeWhile fun y => ltP y x := by
  have := List.takeWhile_append_dropWhile (p := fun y => ltP y x) (l := S)
  unfold posP
  conv => lhs; rw [← this]
  rw [List.take_left' (by rw [this])]
theorem posP_drop (x : List Int) (S : List (List Int)) : S.drop (posP x S) = S.dropWhile fun y => ltP y x := by
  have := List.takeWhile_append_dropWhile (p := fun y => ltP y x) (l := S)
  unfold posP
  conv => lhs; rw [← this]
  rw [List.drop_left' (by rw [this])]
theorem posP_is (x : List Int) (S : List (List Int)) (k : Nat) (hk : k ≤ S.length) (h1 : ∀ j, j < k → ltP (rowOf S j) x = true) (h2 : k < S.length → ltP (rowOf S k) x = false) : posP x S = k := by
  induction S generalizing k with
  | nil => simp at hk; subst hk; rfl
  | cons a S ih =>
    unfold posP
    cases k with
    | zero =>
      have := h2 (by simp)
      simp only [rowOf, List.getD_cons_zero] at this
      rw [List.takeWhile_cons, if_neg (by rw [this]; simp)]
      rfl
    | succ k =>
      have := h1 0 (by omega)
      simp only [rowOf, List.getD_cons_zero] at this
      rw [List.takeWhile_cons, if_pos this, List.length_cons]
      have hk2 := ih k (by simpa using hk) (fun j hj => by have := h1 (j + 1) (by omega); simpa [rowOf] using this) (fun hh => by have := h2 (by simpa using hh); simpa [rowOf] using this)
      unfold posP at hk2
      rw [hk2]
theorem mem_tw {α : Type} (p : α → Bool) : ∀ (l : List α) {x : α}, x ∈ l.takeWhile p → p x = true
  | [], _, h => by simp at h
  | a :: l, x, h => by
    rw [List.takeWhile_cons] at h
    by_cases ha : p a = true
    · rw [if_pos ha] at h
      rcases List.mem_cons.1 h with rfl | h
      · exact ha
      · exact mem_tw p l h
    · rw [if_neg ha] at h; simp at h
theorem insP_perm (x : List Int) (S : List (List Int)) : (insP x S).Perm (x :: S) := by
  unfold insP
  refine List.perm_middle.trans ?_
  rw [List.take_append_drop]
theorem insP_sort {x : List Int} {S : List (List Int)} (hS : SortP S) : SortP (insP x S) := by
  unfold insP
  rw [posP_take, posP_drop]
  have hsp := List.takeWhile_append_dropWhile (p := fun y => ltP y x) (l := S)
  have hS' := hS
  unfold SortP at hS' ⊢
  rw [← hsp, List.pairwise_append] at hS'
  obtain ⟨a1, a2, a3⟩ := hS'
  have hlt : ∀ y ∈ S.takeWhile (fun y => ltP y x), ltP y x = true := fun y hy => mem_tw (fun y => ltP y x) S hy
  have hge : ∀ y ∈ S.dropWhile (fun y => ltP y x), ltP y x = false := fun y hy => by
    cases hd : S.dropWhile (fun y => ltP y x) with
    | nil => rw [hd] at hy; simp at hy
    | cons z zs =>
      have hz : ltP z x = false := by
        have := List.head?_dropWhile_not (fun y => ltP y x) S
        rw [hd] at this
        simpa using this
      rw [hd] at hy a2
      rcases List.mem_cons.1 hy with rfl | hy
      · exact hz
      · exact leQ_trans hz ((List.pairwise_cons.1 a2).1 y hy)
  rw [List.pairwise_append]
  refine ⟨a1, List.pairwise_cons.2 ⟨hge, a2⟩, fun a ha b hb => ?_⟩
  rcases List.mem_cons.1 hb with rfl | hb
  · cases h : ltP b a
    · rfl
    · have := ltP_trans _ _ _ h (hlt a ha)
      rw [ltP_irr] at this; cases this
  · exact a3 a ha b hb
/-- put in order one by one -/
def PlS (T : List (List Int)) (k : Nat) : List (List Int) := (T.take k).foldl (fun S x => insP x S) []
theorem PlS_zero (T : List (List Int)) : PlS T 0 = [] := rfl
theorem PlS_succ (T : List (List Int)) (k : Nat) (h : k < T.length) : PlS T (k + 1) = insP (rowOf T k) (PlS T k) := by
  unfold PlS
  rw [List.take_succ_eq_append_getElem h, List.foldl_append]
  have e : rowOf T k = T[k] := by simp [rowOf, h]
  rw [e]
  rfl
theorem PlS_perm (T : List (List Int)) : ∀ k, k ≤ T.length → (PlS T k).Perm (T.take k)
  | 0, _ => List.Perm.refl _
  | k + 1, h => by
    rw [PlS_succ T k (by omega), List.take_succ_eq_append_getElem (by omega)]
    have e : rowOf T k = T[k] := by simp [rowOf, show k < T.length by omega]
    rw [e]
    refine (insP_perm _ _).trans ?_
    refine ((PlS_perm T k (by omega)).cons _).trans ?_
    exact List.perm_append_comm (l₁ := [T[k]])
theorem PlS_length (T : List (List Int)) (k : Nat) (h : k ≤ T.length) : (PlS T k).length = k := by rw [(PlS_perm T k h).length_eq]; simp; omega
theorem PlS_sort (T : List (List Int)) : ∀ k, k ≤ T.length → SortP (PlS T k)
  | 0, _ => List.Pairwise.nil
  | k + 1, h => by
    rw [PlS_succ T k (by omega)]
    exact insP_sort (PlS_sort T k (by omega))

/- the model's way along a piece -/
section
variable {P : List Int}
theorem first_at (hs : P.Pairwise (· < ·)) {a : Int} (ha : a ∈ P) (hmin : ∀ x ∈ P, a ≤ x) : ∃ h : 0 < P.length, P[0] = a := by
  obtain ⟨k, hk, e⟩ := List.getElem_of_mem ha
  refine ⟨by omega, ?_⟩
  have h1 := sort_le hs hk (Nat.zero_le k)
  have h2 := hmin P[0] (List.getElem_mem _)
  omega
theorem next_at (hs : P.Pairwise (· < ·)) {i : Nat} (hi : i < P.length) {nx : Int} (hn : nx ∈ P) (hlt : P[i] < nx) (hno : ∀ c, P[i] < c → c < nx → c ∉ P) : ∃ h : i + 1 < P.length, P[i + 1] = nx := by
  obtain ⟨k, hk, rfl⟩ := List.getElem_of_mem hn
  have hik := sort_of hs hi hk hlt
  refine ⟨by omega, ?_⟩
  by_cases e : i + 1 = k
  · subst e; rfl
  · exact absurd (List.getElem_mem (by omega)) (hno (P[i + 1]'(by omega)) (sort_at hs (by omega) (by omega)) (sort_at hs hk (by omega)))
theorem last_at (hs : P.Pairwise (· < ·)) {i : Nat} (hi : i < P.length) (hmax : ∀ x ∈ P, x ≤ P[i]) : P.length = i + 1 := by
  rcases Nat.lt_or_ge (i + 1) P.length with h | h
  · have h1 := sort_at hs h (Nat.lt_succ_self i)
    have h2 := hmax _ (List.getElem_mem h)
    omega
  · omega
end
/-- from a corner of a piece the farthest joined one is the next corner -/
theorem pc_walk {n : Nat} {ds : List (Int × Int)} {p : Int × Int} (h : Nc n ds) (hp : p ∈ basesC n ds) (n3 : 3 ≤ n) {i : Nat} (hi : i < (pc n ds p).length) {nx : Int} (h1 : (pc n ds p)[i] < nx) (h2 : nx ≤ p.2) (hj : joB n ds (pc n ds p)[i] nx = true)
    (hne : ¬((pc n ds p)[i] = p.1 ∧ nx = p.2)) (hmax : ∀ c, nx < c → c ≤ p.2 → joB n ds (pc n ds p)[i] c = true → (pc n ds p)[i] = p.1 ∧ c = p.2) :
    ∃ h : i + 1 < (pc n ds p).length, (pc n ds p)[i + 1] = nx := by
  have hs := pc_step h hp n3 (List.getElem_mem hi) h1 h2 hj hne hmax
  exact next_at (pc_sort n ds p) hi hs.1 h1 hs.2
theorem pc_le {n : Nat} {ds : List (Int × Int)} {p : Int × Int} {x : Int} (hx : x ∈ pc n ds p) : p.1 ≤ x ∧ x ≤ p.2 := by
  rw [mem_pc, pcF_iff] at hx
  exact hx.2.1
theorem pc_len {n : Nat} (ds : List (Int × Int)) (p : Int × Int) : (pc n ds p).length ≤ n := by
  unfold pc
  refine Nat.le_trans (List.length_filter_le _ _) ?_
  simp [corI]

/- the model's bases, in its order -/
def okJ (n : Nat) (ds : List (Int × Int)) (a b : Nat) : Bool := decide (a < b) && joB n ds a b && !decide (b = a + 1)
def bsR (n : Nat) (ds : List (Int × Int)) (a b : Nat) : List (Int × Int) := ((List.range b).filter (okJ n ds a)).map fun (b' : Nat) => ((a : Int), (b' : Int))
def bsA (n : Nat) (ds : List (Int × Int)) (a : Nat) : List (Int × Int) := (List.range a).flatMap fun a' => bsR n ds a' n
theorem bsA_zero (n : Nat) (ds : List (Int × Int)) : bsA n ds 0 = [] := rfl
theorem bsA_succ (n : Nat) (ds : List (Int × Int)) (a : Nat) : bsA n ds (a + 1) = bsA n ds a ++ bsR n ds a n := by simp [bsA, List.range_succ]
theorem bsR_start (n : Nat) (ds : List (Int × Int)) (a : Nat) : bsR n ds a (a + 1) = [] := by
  unfold bsR
  rw [List.map_eq_nil_iff, List.filter_eq_nil_iff]
  intro x hx
  rw [List.mem_range] at hx
  unfold okJ
  simp
  omega
theorem bsR_yes {n : Nat} {ds : List (Int × Int)} {a b : Nat} (h : okJ n ds a b = true) : bsR n ds a (b + 1) = bsR n ds a b ++ [((a : Int), (b : Int))] := by simp [bsR, List.range_succ, h]
theorem bsR_no {n : Nat} {ds : List (Int × Int)} {a b : Nat} (h : okJ n ds a b = false) : bsR n ds a (b + 1) = bsR n ds a b := by simp [bsR, List.range_succ, h]
theorem mem_bsA {n : Nat} {ds : List (Int × Int)} (h : Nc n ds) (n3 : 3 ≤ n) {p : Int × Int} : p ∈ bsA n ds n ↔ p ∈ basesC n ds := by
  unfold bsA bsR basesC
  simp only [List.mem_flatMap, List.mem_map, List.mem_filter, List.mem_range, List.mem_cons]
  constructor
  · rintro ⟨a, ha, b, ⟨hb, hok⟩, rfl⟩
    unfold okJ at hok
    simp only [Bool.and_eq_true, decide_eq_true_eq, Bool.not_eq_true', decide_eq_false_iff_not] at hok
    rcases joB_iff.1 hok.1.2 with hj | hj | hj
    · omega
    · exact .inl (Prod.ext (by simpa using hj.1) (by simpa using hj.2))
    · exact .inr hj
  · rintro (rfl | hp)
    · refine ⟨0, by omega, n - 1, ⟨by omega, ?_⟩, Prod.ext (by simp) (by simp; omega)⟩
      unfold okJ
      simp only [Bool.and_eq_true, decide_eq_true_eq, Bool.not_eq_true', decide_eq_false_iff_not]
      exact ⟨⟨by omega, joB_iff.2 (.inr (.inl ⟨rfl, by omega⟩))⟩, by omega⟩
    · have hd := h.dg p hp
      have e1 : ((p.1.toNat : Nat) : Int) = p.1 := by omega
      have e2 : ((p.2.toNat : Nat) : Int) = p.2 := by omega
      refine ⟨p.1.toNat, by omega, p.2.toNat, ⟨by omega, ?_⟩, by rw [e1, e2]⟩
      unfold okJ
      simp only [Bool.and_eq_true, decide_eq_true_eq, Bool.not_eq_true', decide_eq_false_iff_not]
      exact ⟨⟨by omega, joB_iff.2 (.inr (.inr (by rw [e1, e2]; exact hp)))⟩, by omega⟩
theorem bsA_nodup (n : Nat) (ds : List (Int × Int)) (a : Nat) : (bsA n ds a).Nodup := by
  unfold bsA List.Nodup
  rw [List.pairwise_flatMap]
  refine ⟨fun a' _ => ?_, ?_⟩
  · unfold bsR
    rw [List.pairwise_map]
    refine List.Pairwise.filter _ ?_
    refine List.pairwise_lt_range.imp fun hlt e => ?_
    have := (Prod.mk.inj e).2
    omega
  · refine List.pairwise_lt_range.imp fun hlt x hx y hy e => ?_
    unfold bsR at hx hy
    simp only [List.mem_map] at hx hy
    obtain ⟨b1, _, rfl⟩ := hx
    obtain ⟨b2, _, rfl⟩ := hy
    have := (Prod.mk.inj e).1
    omega
/-- the model's list, ahead of its order -/
def mdlP (n : Nat) (ds : List (Int × Int)) : List (List Int) := (bsA n ds n).map (pc n ds)
/-- the pieces of a cut, in order -/
def pcL (n : Nat) (ds : List (Int × Int)) : List (List Int) := PlS (mdlP n ds) (mdlP n ds).length
theorem mdl_perm {n : Nat} {ds : List (Int × Int)} (h : Nc n ds) (n3 : 3 ≤ n) (hnd : (basesC n ds).Nodup) : (mdlP n ds).Perm ((basesC n ds).map (pc n ds)) :=
  ((List.perm_ext_iff_of_nodup (bsA_nodup n ds n) hnd).2 fun _ => mem_bsA h n3).map _
/-- a list that is in order and has the pieces is that of the model -/
theorem pcL_unique {n : Nat} {ds : List (Int × Int)} (h : Nc n ds) (n3 : 3 ≤ n) (hnd : (basesC n ds).Nodup) {S : List (List Int)} (hp : S.Perm ((basesC n ds).map (pc n ds))) (hs : SortP S) : S = pcL n ds := by
  refine sortP_unique ?_ hs (PlS_sort _ _ (Nat.le_refl _))
  have := PlS_perm (mdlP n ds) (mdlP n ds).length (Nat.le_refl _)
  rw [List.take_length] at this
  exact hp.trans ((mdl_perm h n3 hnd).symm.trans this.symm)
theorem pcL_perm {n : Nat} {ds : List (Int × Int)} (h : Nc n ds) (n3 : 3 ≤ n) (hnd : (basesC n ds).Nodup) : (pcL n ds).Perm ((basesC n ds).map (pc n ds)) := by
  have := PlS_perm (mdlP n ds) (mdlP n ds).length (Nat.le_refl _)
  rw [List.take_length] at this
  exact this.trans (mdl_perm h n3 hnd)
end Go.Proofs.Ytlnnnjnboknoeaa
