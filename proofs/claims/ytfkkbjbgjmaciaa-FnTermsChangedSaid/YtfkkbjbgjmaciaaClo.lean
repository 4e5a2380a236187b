/- A quiddity closes: the entries of n corners further are turned round. Plain mathematics. -/
import Derived.Test.YtfkkbjbgjmaciaaRevM
import Derived.Test.YtfkkbjbgjmaciaaFrM
namespace Go.Proofs.Ytfkkbjbgjmaciaa
set_option linter.unusedVariables false
open Go.RowKit

/-- one step along the numbers: the entry before, the entry -/
def stp (a : Int) (p : Int × Int) : Int × Int := (p.2, a * p.2 - p.1)
def runS : List Int → Int × Int → Int × Int
  | [], p => p
  | a :: r, p => runS r (stp a p)
theorem runS_app : ∀ (l r : List Int) (p : Int × Int), runS (l ++ r) p = runS r (runS l p)
  | [], _, _ => rfl
  | _ :: l, r, p => runS_app l r _
/-- all is turned round -/
def NegL (l : List Int) : Prop := ∀ p, runS l p = (-p.1, -p.2)
theorem neg_rot1 {a : Int} {t : List Int} (h : NegL (a :: t)) : NegL (t ++ [a]) := fun p => by
  obtain ⟨b, e⟩ := p
  have h1 := h (a * b - e, b)
  have e1 : stp a (a * b - e, b) = (b, e) := by unfold stp; dsimp only; congr 1; omega
  have h2 : runS t (b, e) = (-(a * b - e), -b) := by rw [← e1]; exact h1
  rw [runS_app, h2]
  show stp a _ = _
  unfold stp
  dsimp only
  rw [Int.mul_neg]
  congr 1
  omega
theorem neg_rot : ∀ (l r : List Int), NegL (l ++ r) → NegL (r ++ l)
  | [], r, h => by simpa using h
  | a :: l, r, h => by
    have := neg_rot l (r ++ [a]) (by rw [← List.append_assoc]; exact neg_rot1 h)
    rw [List.append_assoc] at this
    exact this
theorem ear_run (x y : Int) (p : Int × Int) : runS [x, 1, y] p = runS [x - 1, y - 1] p := by
  obtain ⟨b, e⟩ := p
  show stp y (stp 1 (stp x (b, e))) = stp (y - 1) (stp (x - 1) (b, e))
  unfold stp
  dsimp only
  refine Prod.ext ?_ ?_ <;> dsimp only <;> grind
theorem neg_ear {x y : Int} {r : List Int} (h : NegL ((x - 1) :: (y - 1) :: r)) : NegL (x :: 1 :: y :: r) := fun p => by
  have := h p
  rw [show (x - 1) :: (y - 1) :: r = [x - 1, y - 1] ++ r from rfl, runS_app, ← ear_run, ← runS_app] at this
  exact this
theorem decr_mid (P : List Int) (a : Int) (S : List Int) {k : Nat} (hk : k = P.length) : decr (P ++ a :: S) k = P ++ (a - 1) :: S := by
  subst hk
  unfold decr
  simp [List.set_append, List.getD_eq_getElem?_getD]
theorem erase_mid (P : List Int) (a : Int) (S : List Int) {k : Nat} (hk : k = P.length) : (P ++ a :: S).eraseIdx k = P ++ S := by
  subst hk
  simp [List.eraseIdx_append]
theorem cut_as {l : List Int} {k a b : Nat} (h1 : (k + l.length - 1) % l.length = a) (h2 : (k + 1) % l.length = b) : cutL l k = (decr (decr l a) b).eraseIdx k := by
  unfold cutL dec2
  rw [h1, h2]
theorem neg_cut {l : List Int} {k : Nat} (hl : 4 ≤ l.length) (hk : k < l.length) (h1 : l.getD k 0 = 1) (h : NegL (cutL l k)) : NegL l := by
  have hs : l = l.take k ++ 1 :: l.drop (k + 1) := by
    have e : l[k] = 1 := by simpa [List.getD_eq_getElem?_getD, hk] using h1
    conv => lhs; rw [← List.take_append_drop k l, List.drop_eq_getElem_cons hk, e]
  have hA : (l.take k).length = k := by rw [List.length_take]; omega
  have hB : (l.drop (k + 1)).length = l.length - (k + 1) := List.length_drop
  generalize l.take k = A at *
  generalize l.drop (k + 1) = B at *
  by_cases k0 : k = 0
  · obtain rfl : A = [] := List.eq_nil_of_length_eq_zero (by omega)
    obtain ⟨y, B', rfl⟩ : ∃ y B', B = y :: B' := by cases B with | nil => simp at hB; omega | cons y B' => exact ⟨y, B', rfl⟩
    have hB' : B' ≠ [] := by rintro rfl; simp at hB; omega
    obtain ⟨R, x, rfl⟩ : ∃ R x, B' = R ++ [x] := ⟨B'.dropLast, B'.getLast hB', (List.dropLast_concat_getLast hB').symm⟩
    subst hs
    subst k0
    have e1 : cutL ([] ++ 1 :: y :: (R ++ [x])) 0 = (y - 1) :: R ++ [x - 1] := by
      rw [cut_as (a := R.length + 2) (b := 1) (by simp) (by simp)]
      rw [show ([] : List Int) ++ 1 :: y :: (R ++ [x]) = (1 :: y :: R) ++ x :: [] by simp, decr_mid (1 :: y :: R) x [] (by simp), show (1 :: y :: R) ++ [x - 1] = [1] ++ y :: (R ++ [x - 1]) by simp, decr_mid (k := 1) [1] y _ rfl]
      rfl
    rw [e1] at h
    have h2 := neg_ear (neg_rot _ _ h)
    exact neg_rot [x] (1 :: y :: R) h2
  · obtain ⟨P, x, rfl⟩ : ∃ P x, A = P ++ [x] := by
      have hne : A ≠ [] := by rintro rfl; simp at hA; omega
      exact ⟨A.dropLast, A.getLast hne, (List.dropLast_concat_getLast hne).symm⟩
    have hkP : k = P.length + 1 := by simp at hA; omega
    cases B with
    | nil =>
      simp at hB
      have hm : k + 1 = l.length := by omega
      obtain ⟨y, R, rfl⟩ : ∃ y R, P = y :: R := by cases P with | nil => simp at hkP; omega | cons y R => exact ⟨y, R, rfl⟩
      subst hs
      have hll : ((y :: R ++ [x]) ++ [(1 : Int)]).length = k + 1 := by simp at hkP ⊢; omega
      have e1 : cutL ((y :: R ++ [x]) ++ [1]) k = (y - 1) :: R ++ [x - 1] := by
        rw [cut_as (a := k - 1) (b := 0) (by rw [hll]; rw [show k + (k + 1) - 1 = (k - 1) + (k + 1) by omega, Nat.add_mod_right]; exact Nat.mod_eq_of_lt (by omega)) (by rw [hll, Nat.mod_self])]
        rw [show (y :: R ++ [x]) ++ [(1 : Int)] = (y :: R) ++ x :: [1] by simp, decr_mid (y :: R) x [1] (by simp at hkP ⊢; omega), show (y :: R) ++ (x - 1) :: [1] = [] ++ y :: (R ++ (x - 1) :: [1]) by simp, decr_mid (k := 0) [] y _ rfl,
          show [] ++ (y - 1) :: (R ++ (x - 1) :: [1]) = ((y - 1) :: R ++ [x - 1]) ++ 1 :: [] by simp, erase_mid _ _ _ (by simp at hkP ⊢; omega)]
        simp
      rw [e1] at h
      have h2 := neg_ear (neg_rot _ _ h)
      have h3 := neg_rot [x, 1] (y :: R) h2
      simpa using h3
    | cons y R =>
      have hm : k + 1 < l.length := by simp at hB; omega
      subst hs
      have hll : ((P ++ [x]) ++ 1 :: y :: R).length = k + 2 + R.length := by simp; omega
      have e1 : cutL ((P ++ [x]) ++ 1 :: y :: R) k = P ++ (x - 1) :: (y - 1) :: R := by
        rw [cut_as (a := k - 1) (b := k + 1) (by rw [hll]; rw [show k + (k + 2 + R.length) - 1 = (k - 1) + (k + 2 + R.length) by omega, Nat.add_mod_right]; exact Nat.mod_eq_of_lt (by omega)) (by rw [hll]; exact Nat.mod_eq_of_lt (by omega))]
        rw [show (P ++ [x]) ++ 1 :: y :: R = P ++ x :: (1 :: y :: R) by simp, decr_mid P x _ (by omega), show P ++ (x - 1) :: 1 :: y :: R = (P ++ [x - 1, 1]) ++ y :: R by simp, decr_mid _ y _ (by simp; omega),
          show (P ++ [x - 1, 1]) ++ (y - 1) :: R = (P ++ [x - 1]) ++ 1 :: (y - 1) :: R by simp, erase_mid _ _ _ (by simp; omega)]
        simp
      rw [e1] at h
      have h2 := neg_rot P _ h
      have h3 : NegL ((x - 1) :: (y - 1) :: (R ++ P)) := by simpa using h2
      have h4 := neg_rot (x :: 1 :: y :: R) P (by simpa using neg_ear h3)
      simpa using h4
theorem neg_red : ∀ (f : Nat) (l : List Int), l.length = f + 3 → red f l = true → NegL l
  | 0, l, _, h => by
    unfold red at h
    rw [decide_eq_true_eq] at h
    subst h
    intro p
    obtain ⟨b, e⟩ := p
    show stp 1 (stp 1 (stp 1 (b, e))) = _
    unfold stp
    dsimp only
    refine Prod.ext ?_ ?_ <;> dsimp only <;> omega
  | f + 1, l, hl, h => by
    unfold red at h
    rw [Bool.and_eq_true, Bool.not_eq_true', decide_eq_false_iff_not] at h
    obtain ⟨h1, h2⟩ := h
    have hb := at1_lt l l.length
    have ho := at1_one l l.length (by omega)
    have hlt : (at1 l l.length).toNat < l.length := by omega
    exact neg_cut (by omega) hlt ho (neg_red f _ (by rw [cutL_length _ _ hlt]; omega) h2)
theorem isQ_neg {q : List Int} (h : isQ q = true) : NegL q := by
  have hl := isQ_len h
  rw [isQ_red, Bool.and_eq_true] at h
  exact neg_red _ _ (by omega) h.2
/-- the steps of the model, which go round, beside the plain ones -/
theorem wrap_stp (a x y : Int) : wrap64 (wrap64 (a * wrap64 x) - wrap64 y) = wrap64 (a * x - y) := by
  have h1 : wrap64 (a * wrap64 x) = wrap64 (a * x) := by
    obtain ⟨k, hk⟩ : ∃ k, wrap64 x = x + 18446744073709551616 * k := ⟨(wrap64 x - x) / 18446744073709551616, by unfold wrap64; omega⟩
    rw [hk, Int.mul_add, show a * (18446744073709551616 * k) = 18446744073709551616 * (a * k) by grind]
    generalize a * x = u
    generalize a * k = v
    unfold wrap64
    omega
  rw [h1]
  generalize a * x = u
  unfold wrap64
  omega
theorem entS_run (q : List Int) (i : Nat) : ∀ s, i + s ≤ q.length → entS q i s = (wrap64 (runS ((q.drop i).take s) (-1, 0)).1, wrap64 (runS ((q.drop i).take s) (-1, 0)).2) := by
  intro s
  induction s with
  | zero => intro _; simp [entS, runS]; constructor <;> (unfold wrap64; omega)
  | succ s ih =>
    intro hs
    unfold entS
    rw [ih (by omega), mdI_eq]
    have e0 : ((i : Int) + (s : Int)) % (q.length : Int) = ((i + s : Nat) : Int) := by rw [Int.emod_eq_of_lt (by omega) (by omega)]; omega
    have e1 : (q.drop i).take (s + 1) = (q.drop i).take s ++ [q.getD (i + s) 0] := by
      rw [List.take_succ_eq_append_getElem (by simp; omega)]
      congr 2
      simp [List.getD_eq_getElem?_getD, show i + s < q.length by omega]
    rw [e0, Int.toNat_natCast, e1, runS_app]
    generalize runS ((q.drop i).take s) (-1, 0) = p
    show _ = (wrap64 (stp _ p).1, wrap64 (stp _ p).2)
    unfold stp
    dsimp only
    rw [wrap_stp]
/-- the entries of 0 and n, of 1 and n -/
theorem ent_end0 {q : List Int} (h : isQ q = true) : ent q 0 q.length = 0 := by
  have hn := isQ_neg h (-1, 0)
  have := entS_run q 0 q.length (by omega)
  unfold ent
  rw [show ((q.length : Int) - 0).toNat = q.length by omega]
  have e : ((0 : Nat) : Int) = 0 := rfl
  rw [e] at this
  rw [this, List.drop_zero, List.take_length, hn]
  show wrap64 (-0) = 0
  unfold wrap64
  omega
theorem ent_end1 {q : List Int} (h : isQ q = true) : ent q 1 q.length = 1 := by
  have hl := isQ_len h
  obtain ⟨a, t, rfl⟩ : ∃ a t, q = a :: t := by cases q with | nil => simp at hl | cons a t => exact ⟨a, t, rfl⟩
  have hn := isQ_neg h (-a, -1)
  have := entS_run (a :: t) 1 t.length (by simp; omega)
  unfold ent
  rw [show (((a :: t).length : Int) - 1).toNat = t.length by simp]
  have e : ((1 : Nat) : Int) = 1 := rfl
  rw [e] at this
  rw [this, List.drop_one, List.tail_cons, List.take_length]
  have e2 : stp a (-a, -1) = (-1, 0) := by unfold stp; dsimp only; congr 1; omega
  have e3 : runS t (-1, 0) = (a, 1) := by
    rw [← e2]
    have := hn
    simp only [runS] at this
    rw [this]
    simp
  rw [e3]
  show wrap64 1 = 1
  unfold wrap64
  omega
end Go.Proofs.Ytfkkbjbgjmaciaa
