/- Flips: plain mathematics. Diagonals of a triangulation are sides of two triangles; flips make triangulations. -/
import Derived.Test.YtbpaaoeefcebeabQuidM
import Derived.Test.YtbpaaoeefcebeabSortM
namespace Go.Proofs.Ytbpaaoeefcebeab
set_option linter.unusedVariables false

theorem crB_iff {a b c d : Int} : crB a b c d = true ↔ (a < c ∧ c < b ∧ b < d) ∨ (c < a ∧ a < d ∧ d < b) := by unfold crB; simp
theorem crB_no {a b c d : Int} : crB a b c d = false ↔ ¬((a < c ∧ c < b ∧ b < d) ∨ (c < a ∧ a < d ∧ d < b)) := by unfold crB; simp
theorem ltB_iff {a b c d : Int} : ltB a b c d = true ↔ a < c ∨ (a = c ∧ b < d) := by unfold ltB; simp

/-- a triangulation, as facts -/
structure Tri (n : Int) (l : List (Int × Int)) : Prop where
  n3 : 3 ≤ n
  n12 : n ≤ 12
  len : (l.length : Int) = n - 3
  dg : ∀ d ∈ l, 0 ≤ d.1 ∧ d.1 + 2 ≤ d.2 ∧ d.2 < n ∧ d.2 - d.1 ≤ n - 2
  nc : ∀ d ∈ l, ∀ e ∈ l, crB d.1 d.2 e.1 e.2 = false
  lt : l.Pairwise (fun d e => ltB d.1 d.2 e.1 e.2 = true)

theorem getD_at {l : List (Int × Int)} {i : Nat} (h : i < l.length) : l.getD i (0, 0) = l[i] := by simp [h]
theorem anyCross_mem {d : Int × Int} {l : List (Int × Int)} (h : anyCross d l = false) {e : Int × Int} (he : e ∈ l) : crB d.1 d.2 e.1 e.2 = false := by
  unfold anyCross at h
  rw [List.any_eq_false] at h
  simpa using h e he
theorem anyCross_none {d : Int × Int} {l : List (Int × Int)} (h : ∀ e ∈ l, crB d.1 d.2 e.1 e.2 = false) : anyCross d l = false := by
  unfold anyCross
  rw [List.any_eq_false]
  intro e he
  simp [h e he]
theorem tri_ok {n : Int} {l : List (Int × Int)} (h : triB n l = true) (i : Nat) (hi : i < l.length) :
    dgB n l[i].1 l[i].2 = true ∧ (∀ j, (hj : j < i) → crB l[i].1 l[i].2 (l[j]'(by omega)).1 (l[j]'(by omega)).2 = false) ∧ (0 < i → ltB (l[i - 1]'(by omega)).1 (l[i - 1]'(by omega)).2 l[i].1 l[i].2 = true) := by
  unfold triB uncB at h
  simp only [Bool.and_eq_true] at h
  have := upTo_at n l _ h.2 i hi
  unfold okAt at this
  simp only [Bool.and_eq_true, Bool.not_eq_true', Bool.or_eq_true, decide_eq_true_eq] at this
  obtain ⟨⟨h1, h2⟩, h3⟩ := this
  rw [getD_at hi] at h1 h2 h3
  refine ⟨h1, fun j hj => ?_, fun h0 => ?_⟩
  · refine anyCross_mem h2 (e := l[j]'(by omega)) ?_
    rw [List.mem_take_iff_getElem]
    exact ⟨j, by omega, rfl⟩
  · rcases h3 with h3 | h3
    · omega
    · rwa [getD_at (by omega)] at h3
theorem tri_of {n : Int} {l : List (Int × Int)} (h : triB n l = true) : Tri n l := by
  obtain ⟨h3, h12, hlen⟩ := tri_n h
  refine ⟨h3, h12, hlen, fun d hd => ?_, fun d hd e he => ?_, ?_⟩
  · obtain ⟨i, hi, rfl⟩ := List.getElem_of_mem hd
    have := (tri_ok h i hi).1
    rw [dgB_iff] at this
    omega
  · obtain ⟨i, hi, rfl⟩ := List.getElem_of_mem hd
    obtain ⟨j, hj, rfl⟩ := List.getElem_of_mem he
    rcases Nat.lt_trichotomy i j with hij | hij | hij
    · have := (tri_ok h j hj).2.1 i hij
      rw [crB_no] at this ⊢
      omega
    · subst hij
      rw [crB_no]
      omega
    · exact (tri_ok h i hi).2.1 j hij
  · rw [List.pairwise_iff_getElem]
    have key : ∀ k i, (hk : i + k + 1 < l.length) → ltB (l[i]'(by omega)).1 (l[i]'(by omega)).2 l[i + k + 1].1 l[i + k + 1].2 = true := by
      intro k
      induction k with
      | zero =>
        intro i hk
        have := (tri_ok h (i + 1) (by omega)).2.2 (by omega)
        simpa using this
      | succ k ih =>
        intro i hk
        have h1 := ih i (by omega)
        have h2 := (tri_ok h (i + (k + 1) + 1) (by omega)).2.2 (by omega)
        have e : i + (k + 1) + 1 - 1 = i + k + 1 := by omega
        simp only [e] at h2
        rw [ltB_iff] at h1 h2 ⊢
        omega
    intro i j hi hj hij
    obtain ⟨k, rfl⟩ : ∃ k, j = i + k + 1 := ⟨j - i - 1, by omega⟩
    exact key k i hj
theorem Tri.toB {n : Int} {l : List (Int × Int)} (h : Tri n l) : triB n l = true := by
  unfold triB uncB upTo
  simp only [Bool.and_eq_true, decide_eq_true_eq]
  refine ⟨⟨by unfold poB; simp [h.n3, h.n12], h.len⟩, ?_⟩
  rw [List.all_eq_true]
  intro i hi
  have hi : i < l.length := by simpa using hi
  unfold okAt
  simp only [Bool.and_eq_true, Bool.not_eq_true', Bool.or_eq_true, decide_eq_true_eq]
  rw [getD_at hi]
  have hm : l[i] ∈ l := List.getElem_mem hi
  refine ⟨⟨?_, anyCross_none fun e he => h.nc _ hm _ (List.mem_of_mem_take he)⟩, ?_⟩
  · have := h.dg _ hm
    rw [dgB_iff]
    have := h.n3
    have := h.n12
    omega
  · by_cases h0 : i = 0
    · exact Or.inl h0
    · right
      rw [getD_at (by omega)]
      exact List.pairwise_iff_getElem.1 h.lt (i - 1) i (by omega) hi (by omega)
theorem Tri.nodup {n : Int} {l : List (Int × Int)} (h : Tri n l) : l.Nodup := by
  refine List.Pairwise.imp ?_ h.lt
  rintro ⟨a, b⟩ ⟨c, d⟩ hab heq
  rw [ltB_iff] at hab
  injection heq with e1 e2
  dsimp only at hab
  omega

/-- corners that are joined by a side (but that from the first to the last one) or by a diagonal -/
def jd' (l : List (Int × Int)) (x y : Int) : Prop := y = x + 1 ∨ (x, y) ∈ l
def Jd (n : Int) (l : List (Int × Int)) (x y : Int) : Prop := y = x + 1 ∨ (x = 0 ∧ y = n - 1) ∨ (x, y) ∈ l
theorem jd'.up {n : Int} {l : List (Int × Int)} {x y : Int} (h : jd' l x y) : Jd n l x y := h.elim Or.inl fun h => Or.inr (Or.inr h)

def cntE (l : List (Int × Int)) (x y : Int) : Nat := l.countP fun d => decide (x ≤ d.1 ∧ d.2 ≤ y ∧ ¬(d.1 = x ∧ d.2 = y))
def cntI (l : List (Int × Int)) (x y : Int) : Nat := l.countP fun d => decide (x ≤ d.1 ∧ d.2 ≤ y)

theorem countP_two {α : Type} (p q r : α → Bool) (l : List α) (h : ∀ a ∈ l, p a = true → q a = true ∨ r a = true) : l.countP p ≤ l.countP q + l.countP r := by
  induction l with
  | nil => simp
  | cons a t ih =>
    have ih := ih fun a ha => h a (by simp [ha])
    have h0 := h a (by simp)
    simp only [List.countP_cons]
    cases hp : p a
    · simp; split <;> split <;> omega
    · rcases h0 hp with hq | hr
      · rw [hq]; simp; split <;> omega
      · rw [hr]; simp; split <;> omega
theorem countP_one {l : List (Int × Int)} (h : l.Nodup) (d : Int × Int) : (l.countP fun e => decide (e = d)) ≤ 1 := by
  induction l with
  | nil => simp
  | cons a t ih =>
    rw [List.nodup_cons] at h
    have ih := ih h.2
    simp only [List.countP_cons]
    by_cases e : a = d
    · subst e
      have : (t.countP fun e => decide (e = a)) = 0 := by
        rw [List.countP_eq_zero]
        intro b hb hd
        have : b = a := by simpa using hd
        subst this
        exact h.1 hb
      simp [this]
    · simp [e]; exact ih

section
variable {n : Int} {l : List (Int × Int)} (hdg : ∀ d ∈ l, 0 ≤ d.1 ∧ d.1 + 2 ≤ d.2) (hnc : ∀ d ∈ l, ∀ e ∈ l, crB d.1 d.2 e.1 e.2 = false) (hnd : l.Nodup)
include hdg hnc hnd

omit hdg hnc in
theorem cntI_le (x y : Int) : cntI l x y ≤ cntE l x y + 1 := by
  have h1 : cntI l x y ≤ cntE l x y + l.countP (fun e => decide (e = (x, y))) := by
    refine countP_two _ _ _ l fun d _ hd => ?_
    obtain ⟨a, b⟩ := d
    simp only [decide_eq_true_eq, Prod.mk.injEq] at *
    omega
  have := countP_one hnd (x, y)
  omega
omit hdg hnc hnd in
theorem cntI_off (x y : Int) (h : (x, y) ∉ l) : cntI l x y ≤ cntE l x y := by
  unfold cntI cntE
  refine List.countP_mono_left fun d hd hp => ?_
  obtain ⟨a, b⟩ := d
  simp only [decide_eq_true_eq] at *
  refine ⟨hp.1, hp.2, fun e => h ?_⟩
  obtain ⟨rfl, rfl⟩ := e
  exact hd
omit hnc hnd in
theorem cntI_short (x : Int) : cntI l x (x + 1) = 0 := by
  unfold cntI
  rw [List.countP_eq_zero]
  intro d hd hp
  have := hdg d hd
  simp only [decide_eq_true_eq] at hp
  omega

omit hdg hnc hnd in
/-- the greatest corner ahead of y that is joined with x -/
theorem last_joined (x y : Int) (hxy : x + 2 ≤ y) : ∃ c, x < c ∧ c < y ∧ jd' l x c ∧ ∀ c', c < c' → c' < y → (x, c') ∉ l := by
  have key : ∀ k : Nat, ∀ z : Int, z = x + 1 + (k : Int) → z ≤ y → ∃ c, x < c ∧ (c < z ∨ c = x + 1) ∧ jd' l x c ∧ ∀ c', c < c' → c' < z → (x, c') ∉ l := by
    intro k
    induction k with
    | zero => intro z hz _; exact ⟨x + 1, by omega, Or.inr rfl, Or.inl rfl, fun c' h1 h2 => by omega⟩
    | succ k ih =>
      intro z hz hzy
      by_cases hm : (x, z - 1) ∈ l
      · exact ⟨z - 1, by omega, Or.inl (by omega), Or.inr hm, fun c' h1 h2 => by omega⟩
      · obtain ⟨c, h1, h2, h3, h4⟩ := ih (z - 1) (by omega) (by omega)
        refine ⟨c, h1, by omega, h3, fun c' h5 h6 => ?_⟩
        by_cases e : c' = z - 1
        · subst e; exact hm
        · exact h4 c' h5 (by omega)
  obtain ⟨c, h1, h2, h3, h4⟩ := key (y - x - 1).toNat y (by omega) (Int.le_refl _)
  exact ⟨c, h1, by omega, h3, h4⟩

omit hnd in
theorem cnt_split (x y c : Int) (h1 : x < c) (h2 : c < y) (h3 : jd' l x c) (h4 : ∀ c', c < c' → c' < y → (x, c') ∉ l) : cntE l x y ≤ cntI l x c + cntI l c y := by
  refine countP_two _ _ _ l fun d hd hp => ?_
  obtain ⟨a, b⟩ := d
  simp only [decide_eq_true_eq] at *
  have hab := hdg _ hd
  dsimp only at hab
  by_cases hb : b ≤ c
  · exact Or.inl ⟨hp.1, hb⟩
  · by_cases ha : c ≤ a
    · exact Or.inr ⟨ha, hp.2.1⟩
    · exfalso
      by_cases hax : a = x
      · subst hax
        have : b < y := by omega
        exact h4 b (by omega) this hd
      · rcases h3 with h3 | h3
        · omega
        · have := hnc _ h3 _ hd
          rw [crB_no] at this
          dsimp only at this
          omega

theorem cnt_bound : ∀ (k : Nat) (x y : Int), (y - x).toNat = k → x + 2 ≤ y → (cntE l x y : Int) ≤ y - x - 2 := by
  intro k
  induction k using Nat.strongRecOn with
  | ind k ih =>
    intro x y hk hxy
    obtain ⟨c, h1, h2, h3, h4⟩ := last_joined (l := l) x y hxy
    have hs := cnt_split hdg hnc x y c h1 h2 h3 h4
    have b1 : (cntI l x c : Int) ≤ c - x - 1 := by
      by_cases e : c = x + 1
      · subst e
        rw [cntI_short hdg]; omega
      · have := ih (c - x).toNat (by omega) x c rfl (by omega)
        have := cntI_le hnd x c
        omega
    have b2 : (cntI l c y : Int) ≤ y - c - 1 := by
      by_cases e : y = c + 1
      · subst e
        rw [cntI_short hdg]; omega
      · have := ih (y - c).toNat (by omega) c y rfl (by omega)
        have := cntI_le hnd c y
        omega
    omega
theorem cntE_le (x y : Int) (hxy : x + 2 ≤ y) : (cntE l x y : Int) ≤ y - x - 2 := cnt_bound hdg hnc hnd _ x y rfl hxy

/-- two corners apart whose polygon has all its diagonals: the third corner of the triangle -/
theorem full_tip (x y : Int) (hxy : x + 2 ≤ y) (hf : y - x - 2 ≤ (cntE l x y : Int)) :
    ∃ c, x < c ∧ c < y ∧ jd' l x c ∧ jd' l c y ∧ (x + 2 ≤ c → c - x - 2 ≤ (cntE l x c : Int)) ∧ (c + 2 ≤ y → y - c - 2 ≤ (cntE l c y : Int)) := by
  obtain ⟨c, h1, h2, h3, h4⟩ := last_joined (l := l) x y hxy
  have hs := cnt_split hdg hnc x y c h1 h2 h3 h4
  have b1 : (cntI l x c : Int) ≤ c - x - 1 := by
    by_cases e : c = x + 1
    · subst e
      rw [cntI_short hdg]; omega
    · have := cntE_le hdg hnc hnd x c (by omega)
      have := cntI_le hnd x c
      omega
  have b2 : (cntI l c y : Int) ≤ y - c - 1 := by
    by_cases e : y = c + 1
    · subst e
      rw [cntI_short hdg]; omega
    · have := cntE_le hdg hnc hnd c y (by omega)
      have := cntI_le hnd c y
      omega
  have a1 := cntI_le hnd x c
  have a2 := cntI_le hnd c y
  refine ⟨c, h1, h2, h3, ?_, fun _ => by omega, fun _ => by omega⟩
  by_cases e : y = c + 1
  · exact Or.inl e
  · right
    rcases Classical.em ((c, y) ∈ l) with hm | hm
    · exact hm
    · have := cntI_off c y hm
      have := cntE_le hdg hnc hnd c y (by omega)
      omega
end

/-- down from the side from the first to the last corner: the triangle on the outer side of a diagonal, and its polygon inside has all diagonals -/
theorem down {n : Int} {l : List (Int × Int)} (h : Tri n l) (a b : Int) (hm : (a, b) ∈ l) :
    ∀ (k : Nat) (x y : Int), (y - x).toNat = k → 0 ≤ x → y < n → x + 2 ≤ y → Jd n l x y → y - x - 2 ≤ (cntE l x y : Int) → x ≤ a → b ≤ y → ¬(a = x ∧ b = y) →
      (b - a - 2 ≤ (cntE l a b : Int)) ∧ ∃ t, 0 ≤ t ∧ t < n ∧ ((t < a ∧ Jd n l t a ∧ Jd n l t b) ∨ (b < t ∧ Jd n l a t ∧ Jd n l b t)) := by
  have hdg : ∀ d ∈ l, 0 ≤ d.1 ∧ d.1 + 2 ≤ d.2 := fun d hd => ⟨(h.dg d hd).1, (h.dg d hd).2.1⟩
  intro k
  induction k using Nat.strongRecOn with
  | ind k ih =>
    intro x y hk hx0 hyn hxy hJ hf hxa hby hne
    obtain ⟨c, h1, h2, h3, h4, h5, h6⟩ := full_tip hdg h.nc h.nodup x y hxy hf
    have hab := hdg _ hm
    dsimp only at hab
    by_cases hb : b ≤ c
    · by_cases e : a = x ∧ b = c
      · obtain ⟨rfl, rfl⟩ := e
        exact ⟨h5 (by omega), y, by omega, hyn, Or.inr ⟨h2, hJ, h4.up⟩⟩
      · exact ih (c - x).toNat (by omega) x c rfl hx0 (by omega) (by omega) h3.up (h5 (by omega)) hxa hb e
    · by_cases ha : c ≤ a
      · by_cases e : a = c ∧ b = y
        · obtain ⟨rfl, rfl⟩ := e
          exact ⟨h6 (by omega), x, hx0, by omega, Or.inl ⟨h1, h3.up, hJ⟩⟩
        · exact ih (y - c).toNat (by omega) c y rfl (by omega) hyn (by omega) h4.up (h6 (by omega)) ha hby e
      · exfalso
        by_cases hax : a = x
        · subst hax
          rcases h4 with h4 | h4
          · omega
          · have := h.nc _ h4 _ hm
            rw [crB_no] at this
            dsimp only at this
            omega
        · rcases h3 with h3 | h3
          · omega
          · have := h.nc _ h3 _ hm
            rw [crB_no] at this
            dsimp only at this
            omega

theorem tri_root {n : Int} {l : List (Int × Int)} (h : Tri n l) : (n - 1) - 0 - 2 ≤ (cntE l 0 (n - 1) : Int) := by
  have e : cntE l 0 (n - 1) = l.length := by
    unfold cntE
    rw [List.countP_eq_length]
    intro d hd
    have := h.dg d hd
    simp only [decide_eq_true_eq]
    omega
  rw [e]
  have := h.len
  omega

instance (n : Int) (l : List (Int × Int)) (x y : Int) : Decidable (Jd n l x y) := by unfold Jd; exact inferInstance
/-- the corners that are joined with both ends of a diagonal -/
def tipB (n : Int) (l : List (Int × Int)) (d : Int × Int) (c : Int) : Bool :=
  decide (Jd n l (min c d.1) (max c d.1)) && decide (Jd n l (min c d.2) (max c d.2))

theorem jd_nc {n : Int} {l : List (Int × Int)} (h : Tri n l) {x y u v : Int} (h1 : Jd n l x y) (h2 : Jd n l u v) (hx : 0 ≤ x) (hv : v < n) : ¬(x < u ∧ u < y ∧ y < v) := by
  rcases h1 with h1 | h1 | h1
  · omega
  · omega
  · rcases h2 with h2 | h2 | h2
    · omega
    · omega
    · have := h.nc _ h1 _ h2
      rw [crB_no] at this
      dsimp only at this
      omega
theorem jd_self {n : Int} {l : List (Int × Int)} (h : Tri n l) (x : Int) : ¬Jd n l x x := by
  have := h.n3
  rintro (h1 | h1 | h1)
  · omega
  · omega
  · have := h.dg _ h1
    dsimp only at this
    omega
theorem tip_low {n : Int} {l : List (Int × Int)} {a b c : Int} (hab : a < b) (h : c < a) : tipB n l (a, b) c = true ↔ Jd n l c a ∧ Jd n l c b := by
  unfold tipB
  dsimp only
  rw [Int.min_eq_left (by omega), Int.max_eq_right (by omega), Int.min_eq_left (by omega), Int.max_eq_right (by omega)]
  simp
theorem tip_mid {n : Int} {l : List (Int × Int)} {a b c : Int} (h : a < c) (h' : c < b) : tipB n l (a, b) c = true ↔ Jd n l a c ∧ Jd n l c b := by
  unfold tipB
  dsimp only
  rw [Int.min_eq_right (by omega), Int.max_eq_left (by omega), Int.min_eq_left (by omega), Int.max_eq_right (by omega)]
  simp
theorem tip_high {n : Int} {l : List (Int × Int)} {a b c : Int} (hab : a < b) (h : b < c) : tipB n l (a, b) c = true ↔ Jd n l a c ∧ Jd n l b c := by
  unfold tipB
  dsimp only
  rw [Int.min_eq_right (by omega), Int.max_eq_left (by omega), Int.min_eq_right (by omega), Int.max_eq_left (by omega)]
  simp
theorem tip_end {n : Int} {l : List (Int × Int)} (ht : Tri n l) {a b c : Int} (h : c = a ∨ c = b) : tipB n l (a, b) c = false := by
  unfold tipB
  rcases h with rfl | rfl
  · have := jd_self ht c
    simp [this]
  · have := jd_self ht c
    simp [this]

/-- the other diagonal of the quadrilateral -/
structure Oth (n : Int) (l : List (Int × Int)) (d e : Int × Int) : Prop where
  low : 0 ≤ e.1
  mid : e.1 < e.2
  high : e.2 < n
  tip : ∀ c, 0 ≤ c → c < n → (tipB n l d c = true ↔ c = e.1 ∨ c = e.2)
  pos : (d.1 < e.1 ∧ e.1 < d.2 ∧ d.2 < e.2) ∨ (e.1 < d.1 ∧ d.1 < e.2 ∧ e.2 < d.2)

theorem oth_ex {n : Int} {l : List (Int × Int)} (h : Tri n l) {d : Int × Int} (hm : d ∈ l) : ∃ e, Oth n l d e := by
  obtain ⟨a, b⟩ := d
  have hdg : ∀ d ∈ l, 0 ≤ d.1 ∧ d.1 + 2 ≤ d.2 := fun d hd => ⟨(h.dg d hd).1, (h.dg d hd).2.1⟩
  have hab := h.dg _ hm
  dsimp only at hab
  have hn := h.n3
  obtain ⟨hf, t, ht0, htn, ht⟩ := down h a b hm ((n - 1) - 0).toNat 0 (n - 1) rfl (Int.le_refl _) (by omega) (by omega) (Or.inr (Or.inl ⟨rfl, rfl⟩)) (tri_root h) hab.1 (by omega) (by omega)
  obtain ⟨c, h1, h2, h3, h4, _, _⟩ := full_tip hdg h.nc h.nodup a b (by omega) hf
  have h3 := h3.up (n := n)
  have h4 := h4.up (n := n)
  have inner : ∀ c', a < c' → c' < b → Jd n l a c' → Jd n l c' b → c' = c := fun c' g1 g2 g3 g4 => by
    have q1 := jd_nc h h3 g4 (by omega) (by omega)
    have q2 := jd_nc h g3 h4 (by omega) (by omega)
    omega
  rcases ht with ⟨t1, t2, t3⟩ | ⟨t1, t2, t3⟩
  · refine ⟨(t, c), ht0, by dsimp only; omega, by dsimp only; omega, fun c' g0 gn => ?_, Or.inr ⟨t1, h1, h2⟩⟩
    dsimp only
    rcases Int.lt_trichotomy c' a with g1 | g1 | g1
    · rw [tip_low (by omega) g1]
      constructor
      · rintro ⟨g2, g3⟩
        have q1 := jd_nc h g2 t3 g0 (by omega)
        have q2 := jd_nc h t2 g3 ht0 (by omega)
        omega
      · intro e
        obtain rfl : c' = t := by omega
        exact ⟨t2, t3⟩
    · rw [tip_end h (Or.inl g1)]
      simp; omega
    · rcases Int.lt_trichotomy c' b with g2 | g2 | g2
      · rw [tip_mid g1 g2]
        constructor
        · rintro ⟨g3, g4⟩
          exact Or.inr (inner c' g1 g2 g3 g4)
        · intro e
          obtain rfl : c' = c := by omega
          exact ⟨h3, h4⟩
      · rw [tip_end h (Or.inr g2)]
        simp; omega
      · rw [tip_high (by omega) g2]
        constructor
        · rintro ⟨g3, g4⟩
          have q1 := jd_nc h t3 g3 ht0 (by omega)
          omega
        · intro e
          omega
  · refine ⟨(c, t), by dsimp only; omega, by dsimp only; omega, htn, fun c' g0 gn => ?_, Or.inl ⟨h1, h2, t1⟩⟩
    dsimp only
    rcases Int.lt_trichotomy c' a with g1 | g1 | g1
    · rw [tip_low (by omega) g1]
      constructor
      · rintro ⟨g2, g3⟩
        have q1 := jd_nc h g3 t2 g0 htn
        omega
      · intro e
        omega
    · rw [tip_end h (Or.inl g1)]
      simp; omega
    · rcases Int.lt_trichotomy c' b with g2 | g2 | g2
      · rw [tip_mid g1 g2]
        constructor
        · rintro ⟨g3, g4⟩
          exact Or.inl (inner c' g1 g2 g3 g4)
        · intro e
          obtain rfl : c' = c := by omega
          exact ⟨h3, h4⟩
      · rw [tip_end h (Or.inr g2)]
        simp; omega
      · rw [tip_high (by omega) g2]
        constructor
        · rintro ⟨g3, g4⟩
          have q1 := jd_nc h g3 t3 hab.1 htn
          have q2 := jd_nc h t2 g4 hab.1 gn
          omega
        · intro e
          obtain rfl : c' = t := by omega
          exact ⟨t2, t3⟩

open Classical in
noncomputable def oth (n : Int) (l : List (Int × Int)) (d : Int × Int) : Int × Int := if h : ∃ e, Oth n l d e then Classical.choose h else (0, 0)
theorem oth_is {n : Int} {l : List (Int × Int)} (h : Tri n l) {d : Int × Int} (hm : d ∈ l) : Oth n l d (oth n l d) := by
  have := oth_ex h hm
  unfold oth
  rw [dif_pos this]
  exact Classical.choose_spec this
/-- the triangulation behind a flip -/
def exch (l : List (Int × Int)) (d e : Int × Int) : List (Int × Int) := sortD (l.filter (fun f => decide (f ≠ d)) ++ [e])
noncomputable def flipL (n : Int) (l : List (Int × Int)) (d : Int × Int) : List (Int × Int) := exch l d (oth n l d)

/-- its sides -/
theorem Oth.sides {n : Int} {l : List (Int × Int)} {d e : Int × Int} (h : Oth n l d e) (hd : 0 ≤ d.1 ∧ d.2 < n) :
    (d.1 < e.1 ∧ e.1 < d.2 ∧ d.2 < e.2 ∧ Jd n l d.1 e.1 ∧ Jd n l e.1 d.2 ∧ Jd n l d.1 e.2 ∧ Jd n l d.2 e.2) ∨ (e.1 < d.1 ∧ d.1 < e.2 ∧ e.2 < d.2 ∧ Jd n l e.1 d.1 ∧ Jd n l e.1 d.2 ∧ Jd n l d.1 e.2 ∧ Jd n l e.2 d.2) := by
  obtain ⟨a, b⟩ := d
  obtain ⟨x, y⟩ := e
  obtain ⟨h0, h1, h2, h3, h4⟩ := h
  dsimp only at *
  have t1 := (h3 x h0 (by omega)).2 (Or.inl rfl)
  have t2 := (h3 y (by omega) h2).2 (Or.inr rfl)
  rcases h4 with ⟨p1, p2, p3⟩ | ⟨p1, p2, p3⟩
  · rw [tip_mid p1 p2] at t1
    rw [tip_high (by omega) p3] at t2
    exact Or.inl ⟨p1, p2, p3, t1.1, t1.2, t2.1, t2.2⟩
  · rw [tip_low (by omega) p1] at t1
    rw [tip_mid p2 p3] at t2
    exact Or.inr ⟨p1, p2, p3, t1.1, t1.2, t2.1, t2.2⟩
theorem Oth.cross {n : Int} {l : List (Int × Int)} {d e : Int × Int} (h : Oth n l d e) : crB d.1 d.2 e.1 e.2 = true := by
  rw [crB_iff]
  have := h.pos
  omega
theorem Oth.new {n : Int} {l : List (Int × Int)} {d e : Int × Int} (h : Oth n l d e) (ht : Tri n l) (hm : d ∈ l) : e ∉ l := fun he => by
  have := ht.nc _ hm _ he
  rw [h.cross] at this
  cases this
theorem Oth.dg {n : Int} {l : List (Int × Int)} {d e : Int × Int} (h : Oth n l d e) (ht : Tri n l) (hm : d ∈ l) : 0 ≤ e.1 ∧ e.1 + 2 ≤ e.2 ∧ e.2 < n ∧ e.2 - e.1 ≤ n - 2 := by
  have h0 := h.low
  have h1 := h.high
  have h2 := h.pos
  have h3 := ht.dg _ hm
  omega
theorem Oth.nc {n : Int} {l : List (Int × Int)} {d e : Int × Int} (h : Oth n l d e) (ht : Tri n l) (hm : d ∈ l) {f : Int × Int} (hf : f ∈ l) (hne : f ≠ d) : crB e.1 e.2 f.1 f.2 = false := by
  have hs := h.sides ⟨(ht.dg _ hm).1, (ht.dg _ hm).2.2.1⟩
  have h0 := h.low
  have hn := h.high
  have h3 := ht.dg _ hm
  have h4 := ht.dg _ hf
  obtain ⟨a, b⟩ := d
  obtain ⟨x, y⟩ := e
  obtain ⟨u, v⟩ := f
  have hJ : Jd n l u v := Or.inr (Or.inr hf)
  have hne' : ¬(u = a ∧ v = b) := fun ⟨h1, h2⟩ => hne (by rw [h1, h2])
  have hD : Jd n l a b := Or.inr (Or.inr hm)
  dsimp only at *
  rw [crB_no]
  rcases hs with ⟨p1, p2, p3, s1, s2, s3, s4⟩ | ⟨p1, p2, p3, s1, s2, s3, s4⟩
  · have q1 := jd_nc ht s1 hJ (by omega) (by omega)
    have q2 := jd_nc ht hJ s1 (by omega) (by omega)
    have q3 := jd_nc ht s2 hJ (by omega) (by omega)
    have q4 := jd_nc ht hJ s2 (by omega) (by omega)
    have q5 := jd_nc ht s3 hJ (by omega) (by omega)
    have q6 := jd_nc ht hJ s3 (by omega) (by omega)
    have q7 := jd_nc ht s4 hJ (by omega) (by omega)
    have q8 := jd_nc ht hJ s4 (by omega) (by omega)
    omega
  · have q1 := jd_nc ht s1 hJ (by omega) (by omega)
    have q2 := jd_nc ht hJ s1 (by omega) (by omega)
    have q3 := jd_nc ht s2 hJ (by omega) (by omega)
    have q4 := jd_nc ht hJ s2 (by omega) (by omega)
    have q5 := jd_nc ht s3 hJ (by omega) (by omega)
    have q6 := jd_nc ht hJ s3 (by omega) (by omega)
    have q7 := jd_nc ht s4 hJ (by omega) (by omega)
    have q8 := jd_nc ht hJ s4 (by omega) (by omega)
    omega

theorem perm_erase {l : List (Int × Int)} (h : l.Nodup) {d : Int × Int} (hd : d ∈ l) : l.Perm (d :: l.filter (fun e => decide (e ≠ d))) := by
  induction l with
  | nil => cases hd
  | cons a t ih =>
    rw [List.nodup_cons] at h
    by_cases e : a = d
    · subst e
      have hf : (a :: t).filter (fun e => decide (e ≠ a)) = t := by
        rw [List.filter_cons]
        simp only [ne_eq, not_true_eq_false, decide_false, Bool.false_eq_true, if_false]
        rw [List.filter_eq_self]
        intro b hb
        simp only [decide_eq_true_eq]
        rintro rfl
        exact h.1 hb
      rw [hf]
    · have hd' : d ∈ t := by
        rcases List.mem_cons.1 hd with h' | h'
        · exact absurd h'.symm e
        · exact h'
      have hf : (a :: t).filter (fun e => decide (e ≠ d)) = a :: t.filter (fun e => decide (e ≠ d)) := by
        rw [List.filter_cons]
        simp [e]
      rw [hf]
      exact ((ih h.2 hd').cons a).trans (List.Perm.swap d a _)
theorem flip_perm (n : Int) (l : List (Int × Int)) (d : Int × Int) : (flipL n l d).Perm (l.filter (fun e => decide (e ≠ d)) ++ [oth n l d]) := (sortD_spec _).2
theorem flip_mem {n : Int} {l : List (Int × Int)} {d f : Int × Int} : f ∈ flipL n l d ↔ (f ∈ l ∧ f ≠ d) ∨ f = oth n l d := by
  rw [(flip_perm n l d).mem_iff]
  simp
theorem flip_length {n : Int} {l : List (Int × Int)} (h : Tri n l) {d : Int × Int} (hm : d ∈ l) : (flipL n l d).length = l.length := by
  have h1 := (flip_perm n l d).length_eq
  have h2 := (perm_erase h.nodup hm).length_eq
  rw [List.length_append] at h1
  simp only [List.length_cons, List.length_nil] at h1 h2
  omega
theorem flip_tri {n : Int} {l : List (Int × Int)} (h : Tri n l) {d : Int × Int} (hm : d ∈ l) : Tri n (flipL n l d) := by
  have ho := oth_is h hm
  refine ⟨h.n3, h.n12, ?_, ?_, ?_, ?_⟩
  · rw [flip_length h hm]; exact h.len
  · intro f hf
    rcases flip_mem.1 hf with ⟨hf, _⟩ | rfl
    · exact h.dg _ hf
    · exact ho.dg h hm
  · intro f hf g hg
    rcases flip_mem.1 hf with ⟨hf, hfd⟩ | rfl
    · rcases flip_mem.1 hg with ⟨hg, hgd⟩ | rfl
      · exact h.nc _ hf _ hg
      · have := ho.nc h hm hf hfd
        rw [crB_no] at this ⊢
        omega
    · rcases flip_mem.1 hg with ⟨hg, hgd⟩ | rfl
      · exact ho.nc h hm hg hgd
      · rw [crB_no]; omega
  · have hnd : (flipL n l d).Nodup := by
      rw [(flip_perm n l d).nodup_iff, List.nodup_append]
      refine ⟨h.nodup.filter _, by simp, ?_⟩
      intro a ha b hb e
      obtain rfl : b = oth n l d := by simpa using hb
      rw [e] at ha
      exact ho.new h hm (List.mem_filter.1 ha).1
    have hs : (flipL n l d).Pairwise leP := (sortD_spec _).1
    refine List.Pairwise.imp₂ ?_ hs hnd
    rintro ⟨a, b⟩ ⟨x, y⟩ h1 h2
    rw [ltB_iff]
    unfold leP at h1
    have : ¬(a = x ∧ b = y) := fun ⟨e1, e2⟩ => h2 (by rw [e1, e2])
    dsimp only at *
    omega
end Go.Proofs.Ytbpaaoeefcebeab
