/- Lists of positive numbers that close are quiddities if their sum is that of one: Conway's and Coxeter's theorem. Plain mathematics. -/
import Derived.Test.YtfkkbjbgjmaciaaPosM
namespace Go.Proofs.Ytfkkbjbgjmaciaa
set_option linter.unusedVariables false
open Go.RowKit

/-- all comes back e times -/
def Cyc (e : Int) (l : List Int) : Prop := ∀ p, runS l p = (e * p.1, e * p.2)
theorem Cyc.neg {l : List Int} (h : Cyc (-1) l) : NegL l := fun p => by rw [h p]; simp
theorem NegL.cyc {l : List Int} (h : NegL l) : Cyc (-1) l := fun p => by rw [h p]; simp
theorem cyc_rot1 {e a : Int} {t : List Int} (h : Cyc e (a :: t)) : Cyc e (t ++ [a]) := fun p => by
  obtain ⟨x, b⟩ := p
  have h1 := h (a * x - b, x)
  have e1 : stp a (a * x - b, x) = (x, b) := by unfold stp; dsimp only; congr 1; omega
  have h2 : runS t (x, b) = (e * (a * x - b), e * x) := by rw [← e1]; exact h1
  rw [runS_app, h2]
  show stp a _ = _
  unfold stp
  refine Prod.ext rfl ?_
  dsimp only
  grind
theorem cyc_rot {e : Int} : ∀ (l r : List Int), Cyc e (l ++ r) → Cyc e (r ++ l)
  | [], r, h => by simpa using h
  | a :: l, r, h => by
    have := cyc_rot l (r ++ [a]) (by rw [← List.append_assoc]; exact cyc_rot1 h)
    rw [List.append_assoc] at this
    exact this
theorem Rot.cyc {e : Int} {a b : List Int} (h : Rot a b) (hc : Cyc e a) : Cyc e b := by
  obtain ⟨u, v, rfl, rfl⟩ := h
  exact cyc_rot _ _ hc
theorem Rot.len {a b : List Int} (h : Rot a b) : a.length = b.length := by
  obtain ⟨u, v, rfl, rfl⟩ := h
  simp
  omega
theorem Rot.mem {a b : List Int} (h : Rot a b) {x : Int} (hx : x ∈ b) : x ∈ a := by
  obtain ⟨u, v, rfl, rfl⟩ := h
  simp at hx ⊢
  exact hx.symm
/-- the sum of what is wanting to three -/
def sm3 : List Int → Int
  | [] => 0
  | a :: r => (3 - a) + sm3 r
theorem sm3_app : ∀ (l r : List Int), sm3 (l ++ r) = sm3 l + sm3 r
  | [], r => by simp [sm3]
  | a :: l, r => by
    have := sm3_app l r
    simp only [List.cons_append, sm3, this]
    omega
theorem Rot.sm {a b : List Int} (h : Rot a b) : sm3 a = sm3 b := by
  obtain ⟨u, v, rfl, rfl⟩ := h
  rw [sm3_app, sm3_app]
  omega
theorem cyc_ear {e x y : Int} {r : List Int} (h : Cyc e (x :: 1 :: y :: r)) : Cyc e ((x - 1) :: (y - 1) :: r) := fun p => by
  have := h p
  rw [show x :: 1 :: y :: r = [x, 1, y] ++ r from rfl, runS_app, ear_run, ← runS_app] at this
  exact this
theorem run_neg : ∀ (l : List Int) (a b : Int), runS l (-a, -b) = (-(runS l (a, b)).1, -(runS l (a, b)).2)
  | [], _, _ => rfl
  | x :: r, a, b => by
    show runS r (-b, x * -b - -a) = (-(runS r (b, x * b - a)).1, -(runS r (b, x * b - a)).2)
    rw [show x * -b - -a = -(x * b - a) by rw [Int.mul_neg]; omega]
    exact run_neg r b (x * b - a)
theorem cyc_ones {e x y : Int} {r : List Int} (h : Cyc e (x :: 1 :: 1 :: y :: r)) : Cyc (-e) ((x + y - 1) :: r) := fun p => by
  obtain ⟨a, b⟩ := p
  have h1 := h (a, b)
  have h2 : runS (x :: 1 :: 1 :: y :: r) (a, b) = runS r (-b, -((x + y - 1) * b - a)) := by
    show runS r (stp y (stp 1 (stp 1 (stp x (a, b))))) = _
    congr 1
    unfold stp
    refine Prod.ext ?_ ?_ <;> dsimp only <;> grind
  rw [h2, run_neg] at h1
  show runS r (b, (x + y - 1) * b - a) = _
  have h3 := congrArg Prod.fst h1
  have h4 := congrArg Prod.snd h1
  dsimp only at h3 h4
  refine Prod.ext ?_ ?_ <;> dsimp only <;> grind
theorem run_grow : ∀ (l : List Int), (∀ x ∈ l, 2 ≤ x) → ∀ a b : Int, 0 ≤ a → a < b → a ≤ (runS l (a, b)).1 ∧ (runS l (a, b)).1 < (runS l (a, b)).2
  | [], _, a, b, _, h => ⟨Int.le_refl _, h⟩
  | x :: r, hx, a, b, h0, h => by
    have hx2 := hx x (by simp)
    have hm : 0 ≤ (x - 2) * b := Int.mul_nonneg (by omega) (by omega)
    have hm' : (x - 2) * b = x * b - 2 * b := Int.sub_mul _ _ _
    obtain ⟨r1, r2⟩ := run_grow r (fun y hy => hx y (by simp [hy])) b (x * b - a) (by omega) (by omega)
    show a ≤ (runS r (b, x * b - a)).1 ∧ (runS r (b, x * b - a)).1 < (runS r (b, x * b - a)).2
    exact ⟨by omega, r2⟩
theorem has_one {e : Int} {l : List Int} (h : Cyc e l) (hp : ∀ x ∈ l, 1 ≤ x) (hl : l ≠ []) : ∃ k, k < l.length ∧ l.getD k 0 = 1 := by
  by_cases hx : (1 : Int) ∈ l
  · obtain ⟨k, hk, e⟩ := List.getElem_of_mem hx
    exact ⟨k, hk, by rw [List.getD_eq_getElem?_getD, List.getElem?_eq_getElem hk]; exact e⟩
  · exfalso
    cases l with
    | nil => exact hl rfl
    | cons a r =>
      have h2 : ∀ x ∈ a :: r, 2 ≤ x := fun x hm => by
        have := hp x hm
        by_cases e : x = 1
        · subst e; exact absurd hm hx
        · omega
      have ha := h2 a (by simp)
      obtain ⟨r1, r2⟩ := run_grow r (fun y hy => h2 y (by simp [hy])) 1 (a * 1 - 0) (by omega) (by omega)
      have h1 : runS r (1, a * 1 - 0) = (e * 0, e * 1) := h (0, 1)
      rw [h1] at r1
      simp at r1
theorem ear_front {l : List Int} {k : Nat} (hl : 3 ≤ l.length) (hk : k < l.length) (h1 : l.getD k 0 = 1) : ∃ x y R, Rot l (x :: 1 :: y :: R) := by
  by_cases h4 : 4 ≤ l.length
  · obtain ⟨x, y, R, h, _⟩ := cut_rot h4 hk h1
    exact ⟨x, y, R, h⟩
  · match l, hl, h4 with
    | [a, b, c], _, _ =>
      match k, hk with
      | 0, _ =>
        simp at h1
        subst h1
        exact ⟨c, b, [], ⟨[1, b], [c], rfl, rfl⟩⟩
      | 1, _ =>
        simp at h1
        subst h1
        exact ⟨a, c, [], Rot.refl _⟩
      | 2, _ =>
        simp at h1
        subst h1
        exact ⟨b, a, [], ⟨[a], [b, 1], rfl, rfl⟩⟩
    | a :: b :: c :: d :: r, _, h4 => simp at h4
/-- two ears beside each other are taken out with a number -/
theorem ones_out {e x y : Int} {R : List Int} (h : Cyc e (x :: 1 :: y :: R)) (hp : ∀ u ∈ x :: 1 :: y :: R, 1 ≤ u) (hR : R ≠ []) (h1 : x = 1 ∨ y = 1) :
    ∃ (e' : Int) (l' : List Int), l' ≠ [] ∧ (∀ u ∈ l', 1 ≤ u) ∧ Cyc e' l' ∧ sm3 (x :: 1 :: y :: R) = sm3 l' + 6 ∧ l'.length + 3 = (x :: 1 :: y :: R).length := by
  rcases h1 with rfl | rfl
  · obtain ⟨Q, u, rfl⟩ : ∃ Q u, R = Q ++ [u] := ⟨R.dropLast, R.getLast hR, (List.dropLast_concat_getLast hR).symm⟩
    have hr : Rot (1 :: 1 :: y :: (Q ++ [u])) (u :: 1 :: 1 :: y :: Q) := ⟨1 :: 1 :: y :: Q, [u], by simp, by simp⟩
    have hy := hp y (by simp)
    have hu := hp u (by simp)
    refine ⟨-e, (u + y - 1) :: Q, by simp, ?_, cyc_ones (hr.cyc h), ?_, by simp⟩
    · intro v hv
      rcases List.mem_cons.1 hv with rfl | hv
      · omega
      · exact hp v (by simp [hv])
    · rw [hr.sm]
      simp only [sm3]
      omega
  · obtain ⟨u, Q, rfl⟩ : ∃ u Q, R = u :: Q := by cases R with | nil => exact absurd rfl hR | cons u Q => exact ⟨u, Q, rfl⟩
    have hx := hp x (by simp)
    have hu := hp u (by simp)
    refine ⟨-e, (x + u - 1) :: Q, by simp, ?_, cyc_ones h, ?_, by simp⟩
    · intro v hv
      rcases List.mem_cons.1 hv with rfl | hv
      · omega
      · exact hp v (by simp [hv])
    · simp only [sm3]
      omega
theorem pos_less {x y : Int} {R : List Int} (hp : ∀ u ∈ x :: 1 :: y :: R, 1 ≤ u) (hx : ¬ x = 1) (hy : ¬ y = 1) : ∀ u ∈ (x - 1) :: (y - 1) :: R, 1 ≤ u := by
  intro u hu
  have h1 := hp x (by simp)
  have h2 := hp y (by simp)
  rcases List.mem_cons.1 hu with rfl | hu
  · omega
  · rcases List.mem_cons.1 hu with rfl | hu
    · omega
    · exact hp u (by simp [hu])
/-- what is wanting to three is six times the number of times that it goes around -/
theorem wind : ∀ (n : Nat) (e : Int) (l : List Int), l.length ≤ n → l ≠ [] → (∀ x ∈ l, 1 ≤ x) → Cyc e l → ∃ w : Int, 1 ≤ w ∧ sm3 l = 6 * w := by
  intro n
  induction n with
  | zero => intro e l hl hn; exact absurd (List.eq_nil_of_length_eq_zero (by omega)) hn
  | succ n ih =>
    intro e l hl hn hp hc
    obtain ⟨k, hk, hk1⟩ := has_one hc hp hn
    by_cases h3 : 3 ≤ l.length
    · obtain ⟨x, y, R, hr⟩ := ear_front h3 hk hk1
      have hc' := hr.cyc hc
      have hp' : ∀ u ∈ x :: 1 :: y :: R, 1 ≤ u := fun u hu => hp u (hr.mem hu)
      have hlen := hr.len
      rw [hr.sm]
      by_cases hR : R = []
      · subst hR
        have he := cyc_ear hc'
        have e1 := congrArg Prod.fst (he (0, 1))
        have e2 := congrArg Prod.snd (he (1, 0))
        simp [runS, stp] at e1 e2
        refine ⟨1, by omega, ?_⟩
        simp only [sm3]
        omega
      · by_cases hx : x = 1
        · obtain ⟨e', l', q1, q2, q3, q4, q5⟩ := ones_out hc' hp' hR (.inl hx)
          obtain ⟨v, v1, v2⟩ := ih e' l' (by omega) q1 q2 q3
          exact ⟨v + 1, by omega, by omega⟩
        · by_cases hy : y = 1
          · obtain ⟨e', l', q1, q2, q3, q4, q5⟩ := ones_out hc' hp' hR (.inr hy)
            obtain ⟨v, v1, v2⟩ := ih e' l' (by omega) q1 q2 q3
            exact ⟨v + 1, by omega, by omega⟩
          · obtain ⟨v, v1, v2⟩ := ih e ((x - 1) :: (y - 1) :: R) (by simp at hlen ⊢; omega) (by simp) (pos_less hp' hx hy) (cyc_ear hc')
            refine ⟨v, v1, ?_⟩
            rw [← v2]
            simp only [sm3]
            omega
    · exfalso
      match l, hn, h3, hp, hc with
      | [a], _, _, hp, hc =>
        have e1 := congrArg Prod.snd (hc (1, 0))
        simp [runS, stp] at e1
      | [a, b], _, _, hp, hc =>
        have e1 := congrArg Prod.fst (hc (0, 1))
        have := hp a (by simp)
        simp [runS, stp] at e1
        omega
      | a :: b :: c :: r, _, h3, _, _ => simp at h3
theorem cc_red : ∀ (f : Nat) (e : Int) (l : List Int), l.length = f + 3 → (∀ x ∈ l, 1 ≤ x) → Cyc e l → sm3 l = 6 → red f l = true := by
  intro f
  induction f with
  | zero =>
    intro e l hl hp hc hs
    match l, hl with
    | [a, b, c], _ =>
      have h1 := hp a (by simp)
      have h2 := hp b (by simp)
      have h3 := hp c (by simp)
      simp only [sm3] at hs
      obtain rfl : a = 1 := by omega
      obtain rfl : b = 1 := by omega
      obtain rfl : c = 1 := by omega
      rfl
  | succ f ih =>
    intro e l hl hp hc hs
    obtain ⟨k, hk, hk1⟩ := has_one hc hp (by rintro rfl; simp at hl)
    obtain ⟨x, y, R, hr, hr2⟩ := cut_rot (by omega) hk hk1
    have hc' := hr.cyc hc
    have hp' : ∀ u ∈ x :: 1 :: y :: R, 1 ≤ u := fun u hu => hp u (hr.mem hu)
    have hlen := hr.len
    rw [hr.sm] at hs
    have hR : R ≠ [] := by rintro rfl; simp at hlen; omega
    have hno : ¬(x = 1 ∨ y = 1) := fun h => by
      obtain ⟨e', l', q1, q2, q3, q4, q5⟩ := ones_out hc' hp' hR h
      obtain ⟨v, v1, v2⟩ := wind _ e' l' (Nat.le_refl _) q1 q2 q3
      omega
    have hps := pos_less hp' (fun h => hno (.inl h)) (fun h => hno (.inr h))
    have hc2 := hr2.symm.cyc (cyc_ear hc')
    have hs2 : sm3 (cutL l k) = 6 := by
      rw [hr2.sm, ← hs]
      simp only [sm3]
      omega
    exact red_ear (anyEar f) (by omega) hk hk1 (ih e _ (by rw [cutL_length _ _ hk]; omega) (fun u hu => hps u (hr2.symm.mem hu)) hc2 hs2)
theorem red_high {f : Nat} {l : List Int} (h : red f l = true) (hl : l.length = f + 3) (j : Nat) (hj : j < l.length) : l.getD j 0 ≤ (f : Int) + 1 := by
  rw [← ofI_red f l [] []] at h
  by_cases hx : (f : Int) + 1 < l.getD j 0
  · rw [ofI_bad f l [] [] hl ⟨j, hj, .inr hx⟩] at h
    simp at h
  · omega
theorem cc_isQ {l : List Int} (h3 : 3 ≤ l.length) (h12 : l.length ≤ 12) (hp : ∀ x ∈ l, 1 ≤ x) (hn : NegL l) (hs : sm3 l = 6) : isQ l = true := by
  have hr := cc_red (l.length - 3) (-1) l (by omega) hp hn.cyc hs
  rw [isQ_red, Bool.and_eq_true]
  refine ⟨?_, hr⟩
  unfold couldB poB
  rw [Bool.and_eq_true]
  refine ⟨by simp; omega, allB_iff.2 fun i hi => ?_⟩
  have h1 := red_low hr (by omega) i hi
  have h2 := red_high hr (by omega) i hi
  omega
/-- backwards -/
theorem run_back : ∀ (l : List Int) (p : Int × Int), runS l.reverse ((runS l p).2, (runS l p).1) = (p.2, p.1)
  | [], p => rfl
  | a :: r, p => by
    rw [List.reverse_cons, runS_app]
    have := run_back r (stp a p)
    show runS [a] (runS r.reverse ((runS r (stp a p)).2, (runS r (stp a p)).1)) = _
    rw [this]
    obtain ⟨x, y⟩ := p
    show stp a _ = _
    unfold stp
    refine Prod.ext ?_ ?_ <;> dsimp only <;> omega
theorem neg_back {l : List Int} (h : NegL l) : NegL l.reverse := fun p => by
  obtain ⟨x, y⟩ := p
  have h1 := run_back l (-y, -x)
  rw [h (-y, -x)] at h1
  simpa using h1
end Go.Proofs.Ytfkkbjbgjmaciaa
