/- Polygons of fractions: what the crosses around add up to; what comes ahead is less. Mathematics; nothing of the program. -/
import Derived.Test.YtaifgfmkkgndkabNbM
namespace Go.Proofs.Ytaifgfmkkgndkab
set_option linter.unusedVariables false
/-- each is near to the next one, and less -/
def chn : List (Int × Int) → Prop
  | a :: b :: r => crs a b = 1 ∧ chn (b :: r)
  | [_] => True
  | [] => True
/-- the crosses of those that stand around each, added -/
def sumC : List (Int × Int) → Int
  | x :: y :: z :: r => crs x z + sumC (y :: z :: r)
  | [_, _] => 0
  | [_] => 0
  | [] => 0
/-- the last but one -/
def lb1 : List (Int × Int) → Int × Int
  | _ :: b :: c :: r => lb1 (b :: c :: r)
  | [a, _] => a
  | [a] => a
  | [] => (0, 0)
def nng (l : List (Int × Int)) : Prop := ∀ p ∈ l, 0 ≤ p.1 ∧ 0 ≤ p.2
def szP (p : Int × Int) : Int := p.1 + p.2
theorem chn_tail {a : Int × Int} {l : List (Int × Int)} (h : chn (a :: l)) : chn l := by
  cases l with
  | nil => trivial
  | cons b r => exact h.2
theorem chn_append_right : ∀ (pre : List (Int × Int)) {l : List (Int × Int)}, chn (pre ++ l) → chn l
  | [], _, h => h
  | _ :: p, _, h => chn_append_right p (chn_tail h)
/-- out of a chain one is taken that is the mediant of those around it -/
theorem chn_cut : ∀ (pre : List (Int × Int)) {a b c : Int × Int} {post : List (Int × Int)}, chn (pre ++ a :: b :: c :: post) → b = (a.1 + c.1, a.2 + c.2) → chn (pre ++ a :: c :: post)
  | [], a, b, c, post, h, e => by
    obtain ⟨h1, h2, h3⟩ := h
    refine ⟨?_, h3⟩
    subst e
    unfold crs at *
    grind
  | [p], a, b, c, post, h, e => ⟨h.1, chn_cut [] (chn_tail h) e⟩
  | p :: q :: r, a, b, c, post, h, e => ⟨h.1, chn_cut (q :: r) (chn_tail h) e⟩
theorem sumC_cut : ∀ (pre : List (Int × Int)) {x a b c : Int × Int} {post : List (Int × Int)}, chn (x :: pre ++ a :: b :: c :: post) → b = (a.1 + c.1, a.2 + c.2) →
    (post = [] → sumC (x :: pre ++ a :: b :: c :: post) = sumC (x :: pre ++ a :: c :: post) + 2) ∧ (post ≠ [] → sumC (x :: pre ++ a :: b :: c :: post) = sumC (x :: pre ++ a :: c :: post) + 3)
  | [], x, a, b, c, post, h, e => by
    obtain ⟨h1, h2, h3, h4⟩ := h
    subst e
    cases post with
    | nil =>
      refine ⟨fun _ => ?_, fun hn => (hn rfl).elim⟩
      simp only [List.cons_append, List.nil_append, sumC]
      unfold crs at *
      grind
    | cons w r =>
      obtain ⟨h5, h6⟩ := h4
      refine ⟨fun hn => (by cases hn), fun _ => ?_⟩
      simp only [List.cons_append, List.nil_append, sumC]
      unfold crs at *
      grind
  | [p], x, a, b, c, post, h, e => by
    have ih := sumC_cut [] (x := p) (chn_tail h) e
    simp only [List.cons_append, List.nil_append, sumC] at ih ⊢
    refine ⟨fun hp => ?_, fun hp => ?_⟩
    · have := ih.1 hp; omega
    · have := ih.2 hp; omega
  | p :: q :: r, x, a, b, c, post, h, e => by
    have ih := sumC_cut (q :: r) (x := p) (chn_tail h) e
    simp only [List.cons_append, sumC] at ih ⊢
    refine ⟨fun hp => ?_, fun hp => ?_⟩
    · have := ih.1 hp; omega
    · have := ih.2 hp; omega
theorem lb1_cons (x y : Int × Int) (l : List (Int × Int)) (h : l ≠ []) : lb1 (x :: y :: l) = lb1 (y :: l) := by
  cases l with
  | nil => exact (h rfl).elim
  | cons z r => rfl
theorem lb1_app : ∀ (pre : List (Int × Int)) (a b : Int × Int) (post : List (Int × Int)), lb1 (pre ++ a :: b :: post) = lb1 (a :: b :: post)
  | [], _, _, _ => rfl
  | [p], a, b, post => rfl
  | p :: q :: r, a, b, post => by
    have := lb1_app (q :: r) a b post
    simp only [List.cons_append] at this ⊢
    rw [← this]
    exact lb1_cons _ _ _ (by simp)
theorem szP_pos {x y : Int × Int} (hx : 0 ≤ x.1 ∧ 0 ≤ x.2) (h : crs x y = 1 ∨ crs y x = 1) : 1 ≤ szP x := by
  rcases (show 1 ≤ szP x ∨ szP x ≤ 0 by omega) with g | g
  · exact g
  · unfold szP at g
    obtain ⟨a, b⟩ := x
    dsimp only at *
    obtain rfl : a = 0 := by omega
    obtain rfl : b = 0 := by omega
    unfold crs at h
    simp at h
theorem szP_ne {x y : Int × Int} (h : crs x y = 1) (e : szP x = szP y) (hx : 2 ≤ szP x) : False := by
  have g : szP x * (y.1 - x.1) = 1 := by unfold szP crs at *; grind
  rcases (show y.1 - x.1 ≤ 0 ∨ 1 ≤ y.1 - x.1 by omega) with k | k
  · have := Int.mul_nonneg (show 0 ≤ szP x by omega) (show 0 ≤ -(y.1 - x.1) by omega)
    rw [Int.mul_neg] at this
    omega
  · have := Int.mul_le_mul_of_nonneg_left k (show 0 ≤ szP x by omega)
    omega
theorem midP {a b c : Int × Int} (ha : 0 ≤ a.1 ∧ 0 ≤ a.2) (hc : 0 ≤ c.1 ∧ 0 ≤ c.2) (h1 : crs a b = 1) (h2 : crs b c = 1) (s1 : szP a < szP b) (s2 : szP c < szP b) : b = (a.1 + c.1, a.2 + c.2) := by
  have e1 : a.1 + c.1 = crs a c * b.1 := by unfold crs at *; grind
  have e2 : a.2 + c.2 = crs a c * b.2 := by unfold crs at *; grind
  have p1 := szP_pos ha (.inl h1)
  have p2 := szP_pos hc (.inr h2)
  have e3 : szP a + szP c = crs a c * szP b := by
    have : szP a + szP c = (a.1 + c.1) + (a.2 + c.2) := by unfold szP; omega
    rw [this, e1, e2, ← Int.mul_add]
    rfl
  generalize hk : crs a c = k at *
  have hk1 : k = 1 := by
    rcases (show k ≤ 0 ∨ k = 1 ∨ 2 ≤ k by omega) with g | g | g
    · have := Int.mul_nonneg (show 0 ≤ -k by omega) (show 0 ≤ szP b by omega)
      rw [Int.neg_mul] at this
      omega
    · exact g
    · have := Int.mul_le_mul_of_nonneg_right g (show 0 ≤ szP b by omega)
      omega
  rw [hk1] at e1 e2
  exact Prod.ext (by dsimp only; omega) (by dsimp only; omega)
theorem ear_at : ∀ (r : List (Int × Int)) (x y : Int × Int), chn (x :: y :: r) → nng (x :: y :: r) → szP x < szP y → (∀ h : (x :: y :: r) ≠ [], szP ((x :: y :: r).getLast h) = 1) →
    ∃ pre a b c post, x :: y :: r = pre ++ a :: b :: c :: post ∧ b = (a.1 + c.1, a.2 + c.2)
  | [], x, y, h, hn, hs, hl => by
    have l := hl (by simp)
    have p := szP_pos (hn x (by simp)) (.inl h.1)
    simp only [List.getLast_cons_cons, List.getLast_singleton] at l
    omega
  | z :: r, x, y, h, hn, hs, hl => by
    obtain ⟨h1, h2, h3⟩ := h
    have p := szP_pos (hn x (by simp)) (.inl h1)
    rcases (show szP z < szP y ∨ szP y = szP z ∨ szP y < szP z by omega) with g | g | g
    · exact ⟨[], x, y, z, r, rfl, midP (hn x (by simp)) (hn z (by simp)) h1 h2 hs g⟩
    · exact (szP_ne h2 g (by omega)).elim
    · obtain ⟨pre, a, b, c, post, e, m⟩ := ear_at r y z ⟨h2, h3⟩ (fun q hq => hn q (List.mem_cons_of_mem _ hq)) g (fun h' => by have := hl (by simp); rw [List.getLast_cons (by simp)] at this; exact this)
      exact ⟨x :: pre, a, b, c, post, by rw [e]; rfl, m⟩
/-- the crosses around all, and the numerator of the last but one: three for each corner, less six -/
theorem sumC_all : ∀ (n : Nat) (l : List (Int × Int)), l.length = n → 2 ≤ n → chn l → nng l → l.head? = some (0, 1) → l.getLast? = some (1, 0) → sumC ((-1, 0) :: l) + (lb1 l).1 = 3 * (n : Int) - 6 := by
  intro n
  induction n with
  | zero => intro l _ h; omega
  | succ n ih =>
    intro l hl h2 hc hn hh hlast
    match l, hl, hc, hn, hh, hlast with
    | [p, q], hl, hc, hn, hh, hlast =>
      simp at hh hlast hl
      subst hh hlast
      subst hl
      simp [sumC, lb1, crs]
    | p :: v :: z :: r, hl, hc, hn, hh, hlast =>
      simp at hh
      subst hh
      have hv : crs (0, 1) v = 1 := hc.1
      have hv1 : v.1 = 1 := by unfold crs at hv; simpa using hv
      have hv2 : 1 ≤ v.2 := by
        have a := (hn v (by simp)).2
        rcases (show v.2 = 0 ∨ 1 ≤ v.2 by omega) with g | g
        · have b := hc.2.1
          have c := (hn z (by simp)).2
          unfold crs at b
          rw [hv1, g] at b
          omega
        · exact g
      obtain ⟨pre, a, b, c, post, e, m⟩ := ear_at (z :: r) (0, 1) v hc hn (by unfold szP; dsimp only; omega) (fun h' => by
        rw [List.getLast?_eq_some_getLast h'] at hlast
        injection hlast with hlast
        rw [hlast]; rfl)
      rw [e] at hc hn hlast hl ⊢
      have hc' : chn ((-1, 0) :: pre ++ a :: b :: c :: post) := by
        have hx : ∃ t, pre ++ a :: b :: c :: post = (0, 1) :: t := ⟨_, e.symm⟩
        obtain ⟨t, ht⟩ := hx
        rw [List.cons_append]
        rw [ht] at hc ⊢
        exact ⟨by simp [crs], hc⟩
      have hlen : (pre ++ a :: c :: post).length = n := by
        simp only [List.length_append, List.length_cons] at hl ⊢
        omega
      have hhd : (pre ++ a :: c :: post).head? = some (0, 1) := by
        have : (pre ++ a :: b :: c :: post).head? = some (0, 1) := by rw [← e]; rfl
        cases pre with
        | nil => exact this
        | cons _ _ => exact this
      have hlst : (pre ++ a :: c :: post).getLast? = some (1, 0) := by
        rw [List.getLast?_append] at hlast ⊢
        simpa using hlast
      have hn' : nng (pre ++ a :: c :: post) := fun q hq => hn q (by
        simp only [List.mem_append, List.mem_cons] at hq ⊢
        rcases hq with h | h | h | h
        · exact .inl h
        · exact .inr (.inl h)
        · exact .inr (.inr (.inr (.inl h)))
        · exact .inr (.inr (.inr (.inr h))))
      have key := ih _ hlen (by simp only [List.length_append, List.length_cons] at hlen; omega) (chn_cut pre hc m) hn' hhd hlst
      obtain ⟨k1, k2⟩ := sumC_cut pre hc' m
      rw [List.cons_append, List.cons_append] at k1 k2
      rw [lb1_app] at key ⊢
      cases post with
      | nil =>
        have := k1 rfl
        have hc1 : c = (1, 0) := by
          rw [List.getLast?_append] at hlst
          simpa using hlst
        simp only [lb1] at key ⊢
        have m1 : b.1 = a.1 + c.1 := by rw [m]
        have m2 : c.1 = 1 := by rw [hc1]
        omega
      | cons w s =>
        have := k2 (by simp)
        simp only [lb1] at key ⊢
        have e5 : lb1 (b :: c :: w :: s) = lb1 (c :: w :: s) := rfl
        have e6 : lb1 (a :: c :: w :: s) = lb1 (c :: w :: s) := rfl
        omega
/-- what comes ahead is less -/
theorem crs_pos : ∀ (l : List (Int × Int)) (x : Int × Int), chn (x :: l) → nng (x :: l) → ∀ y ∈ l, 1 ≤ crs x y
  | [], _, _, _, _, hy => by cases hy
  | y :: r, x, h, hn, z, hz => by
    rcases List.mem_cons.1 hz with rfl | hz
    · have := h.1; omega
    · have ih := crs_pos r y h.2 (fun q hq => hn q (List.mem_cons_of_mem _ hq)) z hz
      have h1 := h.1
      obtain ⟨x1, x2⟩ := hn x (by simp)
      obtain ⟨y1, y2⟩ := hn y (by simp)
      obtain ⟨z1, z2⟩ := hn z (by simp [hz])
      have e : crs x z * y.2 = z.2 + crs y z * x.2 := by unfold crs at *; grind
      have g1 : 1 ≤ x.2 := by
        rcases (show x.2 = 0 ∨ 1 ≤ x.2 by omega) with g | g
        · have := Int.mul_nonneg x1 y2
          unfold crs at h1
          rw [g] at h1
          omega
        · exact g
      have g2 : 1 ≤ y.2 := by
        rcases (show y.2 = 0 ∨ 1 ≤ y.2 by omega) with g | g
        · have := Int.mul_nonneg y1 z2
          unfold crs at ih
          rw [g] at ih
          omega
        · exact g
      have g3 := Int.mul_le_mul_of_nonneg_right ih (show 0 ≤ x.2 by omega)
      rcases (show crs x z ≤ 0 ∨ 1 ≤ crs x z by omega) with g | g
      · have := Int.mul_nonneg (show 0 ≤ - crs x z by omega) (show 0 ≤ y.2 by omega)
        rw [Int.neg_mul] at this
        omega
      · exact g
theorem crs_at : ∀ (l : List (Int × Int)) (i j : Nat), chn l → nng l → i < j → j < l.length → 1 ≤ crs (l.getD i (0, 0)) (l.getD j (0, 0))
  | [], _, _, _, _, _, hj => by simp at hj
  | x :: l, 0, j + 1, h, hn, _, hj => by
    have hj' : j < l.length := by simpa using hj
    have := crs_pos l x h hn (l.getD j (0, 0)) (by simp [hj'])
    simpa using this
  | x :: l, i + 1, j + 1, h, hn, hij, hj => by
    have := crs_at l i j (chn_tail h) (fun q hq => hn q (List.mem_cons_of_mem _ hq)) (by omega) (by simpa using hj)
    simpa using this
end Go.Proofs.Ytaifgfmkkgndkab
