/- The entries of a quiddity's frieze are not negative, and small. Plain mathematics. -/
import Derived.Test.YtfkkbjbgjmaciaaClo
namespace Go.Proofs.Ytfkkbjbgjmaciaa
set_option linter.unusedVariables false
open Go.RowKit

theorem wrap_in' (x : Int) (h : -9000000000000000000 ≤ x ∧ x ≤ 9000000000000000000) : wrap64 x = x := by unfold wrap64; omega
/-- one list is the other, turned -/
def Rot (a b : List Int) : Prop := ∃ u v, a = u ++ v ∧ b = v ++ u
theorem Rot.trans {a b c : List Int} (h : Rot a b) (g : Rot b c) : Rot a c := by
  obtain ⟨u, v, rfl, rfl⟩ := h
  obtain ⟨u', v', e, rfl⟩ := g
  rcases List.append_eq_append_iff.1 e with ⟨t, h1, h2⟩ | ⟨t, h1, h2⟩
  · subst h1 h2; exact ⟨t, v' ++ v, by simp, by simp⟩
  · subst h1 h2; exact ⟨u ++ u', t, by simp, by simp⟩
theorem Rot.symm {a b : List Int} (h : Rot a b) : Rot b a := by
  obtain ⟨u, v, rfl, rfl⟩ := h
  exact ⟨v, u, rfl, rfl⟩
theorem Rot.refl (a : List Int) : Rot a a := ⟨[], a, rfl, by simp⟩
theorem Rot.of (u v : List Int) : Rot (u ++ v) (v ++ u) := ⟨u, v, rfl, rfl⟩
theorem Rot.neg {a b : List Int} (h : Rot a b) (hn : NegL a) : NegL b := by
  obtain ⟨u, v, rfl, rfl⟩ := h
  exact neg_rot _ _ hn
/-- an ear, turned to the front -/
theorem cut_rot {l : List Int} {k : Nat} (hl : 4 ≤ l.length) (hk : k < l.length) (h1 : l.getD k 0 = 1) : ∃ x y R, Rot l (x :: 1 :: y :: R) ∧ Rot (cutL l k) ((x - 1) :: (y - 1) :: R) := by
  have hs : l = l.take k ++ 1 :: l.drop (k + 1) := by
    have e : l[k] = 1 := by simpa [List.getD_eq_getElem?_getD, hk] using h1
    conv => lhs; rw [← List.take_append_drop k l, List.drop_eq_getElem_cons hk, e]
  have hA : (l.take k).length = k := by rw [List.length_take]; omega
  have hB : (l.drop (k + 1)).length = l.length - (k + 1) := List.length_drop
  generalize l.take k = A at *
  generalize l.drop (k + 1) = B at *
  by_cases k0 : k = 0
  · obtain rfl : A = [] := List.eq_nil_of_length_eq_zero (by omega)
    obtain ⟨y, B', rfl⟩ : ∃ y B', B = y :: B' := by cases B with | nil => simp at hB; omega | cons y B' => exact ⟨y, B', rfl⟩
    have hB' : B' ≠ [] := by rintro rfl; simp at hB; omega
    obtain ⟨R, x, rfl⟩ : ∃ R x, B' = R ++ [x] := ⟨B'.dropLast, B'.getLast hB', (List.dropLast_concat_getLast hB').symm⟩
    subst hs
    subst k0
    have e1 : cutL ([] ++ 1 :: y :: (R ++ [x])) 0 = (y - 1) :: R ++ [x - 1] := by
      rw [cut_as (a := R.length + 2) (b := 1) (by simp) (by simp)]
      rw [show ([] : List Int) ++ 1 :: y :: (R ++ [x]) = (1 :: y :: R) ++ x :: [] by simp, decr_mid (1 :: y :: R) x [] (by simp), show (1 :: y :: R) ++ [x - 1] = [1] ++ y :: (R ++ [x - 1]) by simp, decr_mid (k := 1) [1] y _ rfl]
      rfl
    rw [e1]
    exact ⟨x, y, R, ⟨1 :: y :: R, [x], by simp, by simp⟩, ⟨(y - 1) :: R, [x - 1], by simp, by simp⟩⟩
  · obtain ⟨P, x, rfl⟩ : ∃ P x, A = P ++ [x] := by
      have hne : A ≠ [] := by rintro rfl; simp at hA; omega
      exact ⟨A.dropLast, A.getLast hne, (List.dropLast_concat_getLast hne).symm⟩
    have hkP : k = P.length + 1 := by simp at hA; omega
    cases B with
    | nil =>
      simp at hB
      have hm : k + 1 = l.length := by omega
      obtain ⟨y, R, rfl⟩ : ∃ y R, P = y :: R := by cases P with | nil => simp at hkP; omega | cons y R => exact ⟨y, R, rfl⟩
      subst hs
      have hll : ((y :: R ++ [x]) ++ [(1 : Int)]).length = k + 1 := by simp at hkP ⊢; omega
      have e1 : cutL ((y :: R ++ [x]) ++ [1]) k = (y - 1) :: R ++ [x - 1] := by
        rw [cut_as (a := k - 1) (b := 0) (by rw [hll]; rw [show k + (k + 1) - 1 = (k - 1) + (k + 1) by omega, Nat.add_mod_right]; exact Nat.mod_eq_of_lt (by omega)) (by rw [hll, Nat.mod_self])]
        rw [show (y :: R ++ [x]) ++ [(1 : Int)] = (y :: R) ++ x :: [1] by simp, decr_mid (y :: R) x [1] (by simp at hkP ⊢; omega), show (y :: R) ++ (x - 1) :: [1] = [] ++ y :: (R ++ (x - 1) :: [1]) by simp, decr_mid (k := 0) [] y _ rfl,
          show [] ++ (y - 1) :: (R ++ (x - 1) :: [1]) = ((y - 1) :: R ++ [x - 1]) ++ 1 :: [] by simp, erase_mid _ _ _ (by simp at hkP ⊢; omega)]
        simp
      rw [e1]
      exact ⟨x, y, R, ⟨y :: R, [x, 1], by simp, by simp⟩, ⟨(y - 1) :: R, [x - 1], by simp, by simp⟩⟩
    | cons y R =>
      have hm : k + 1 < l.length := by simp at hB; omega
      subst hs
      have hll : ((P ++ [x]) ++ 1 :: y :: R).length = k + 2 + R.length := by simp; omega
      have e1 : cutL ((P ++ [x]) ++ 1 :: y :: R) k = P ++ (x - 1) :: (y - 1) :: R := by
        rw [cut_as (a := k - 1) (b := k + 1) (by rw [hll]; rw [show k + (k + 2 + R.length) - 1 = (k - 1) + (k + 2 + R.length) by omega, Nat.add_mod_right]; exact Nat.mod_eq_of_lt (by omega)) (by rw [hll]; exact Nat.mod_eq_of_lt (by omega))]
        rw [show (P ++ [x]) ++ 1 :: y :: R = P ++ x :: (1 :: y :: R) by simp, decr_mid P x _ (by omega), show P ++ (x - 1) :: 1 :: y :: R = (P ++ [x - 1, 1]) ++ y :: R by simp, decr_mid _ y _ (by simp; omega),
          show (P ++ [x - 1, 1]) ++ (y - 1) :: R = (P ++ [x - 1]) ++ 1 :: (y - 1) :: R by simp, erase_mid _ _ _ (by simp; omega)]
        simp
      rw [e1]
      exact ⟨x, y, R ++ P, ⟨P, x :: 1 :: y :: R, by simp, by simp⟩, ⟨P, (x - 1) :: (y - 1) :: R, by simp, by simp⟩⟩

/-- no entry along the numbers is negative -/
def NN : List Int → Int × Int → Prop
  | [], p => 0 ≤ p.2
  | a :: r, p => 0 ≤ p.2 ∧ NN r (stp a p)
theorem NN.head {l : List Int} {p : Int × Int} (h : NN l p) : 0 ≤ p.2 := by
  cases l with
  | nil => exact h
  | cons a r => exact h.1
theorem nn_app : ∀ (l r : List Int) (p : Int × Int), NN (l ++ r) p ↔ NN l p ∧ NN r (runS l p)
  | [], r, p => ⟨fun h => ⟨h.head, h⟩, fun h => h.2⟩
  | a :: l, r, p => by
    show (0 ≤ p.2 ∧ NN (l ++ r) (stp a p)) ↔ (0 ≤ p.2 ∧ NN l (stp a p)) ∧ NN r (runS l (stp a p))
    rw [nn_app l r, and_assoc]
theorem nn_ear {x y : Int} {S : List Int} {p : Int × Int} (h : NN ((x - 1) :: (y - 1) :: S) p) : NN (x :: 1 :: y :: S) p := by
  obtain ⟨b, e⟩ := p
  obtain ⟨h0, h1, h2⟩ := h
  have h3 := h2.head
  have e1 : stp y (stp 1 (stp x (b, e))) = stp (y - 1) (stp (x - 1) (b, e)) := ear_run x y (b, e)
  refine ⟨h0, ?_, ?_, by rw [e1]; exact h2⟩
  · show 0 ≤ x * e - b
    have : 0 ≤ (x - 1) * e - b := h1
    have h0' : 0 ≤ e := h0
    grind
  · show 0 ≤ 1 * (x * e - b) - e
    have : 0 ≤ (x - 1) * e - b := h1
    grind
def addP (p q : Int × Int) : Int × Int := (p.1 + q.1, p.2 + q.2)
theorem stp_add (a : Int) (p q : Int × Int) : stp a (addP p q) = addP (stp a p) (stp a q) := by
  unfold stp addP
  dsimp only
  refine Prod.ext rfl ?_
  dsimp only
  grind
theorem nn_add : ∀ (l : List Int) (p q : Int × Int), NN l p → NN l q → NN l (addP p q)
  | [], p, q, h, g => by
    have h' : 0 ≤ p.2 := h
    have g' : 0 ≤ q.2 := g
    show 0 ≤ p.2 + q.2
    omega
  | a :: l, p, q, h, g => by
    have h' : 0 ≤ p.2 := h.1
    have g' : 0 ≤ q.2 := g.1
    refine ⟨?_, ?_⟩
    · show 0 ≤ p.2 + q.2
      omega
    · rw [stp_add]
      exact nn_add l _ _ h.2 g.2
/-- from wherever one begins, no entry is negative -/
def PosL (l : List Int) : Prop := ∀ u v, l = u ++ v → NN (v ++ u) (-1, 0)
theorem PosL.all {l r : List Int} (h : PosL l) (hr : Rot l r) : NN r (-1, 0) := by
  obtain ⟨u, v, e, rfl⟩ := hr
  exact h u v e
theorem PosL.rot {a b : List Int} (h : PosL a) (hr : Rot a b) : PosL b := fun u v e => h.all (hr.trans ⟨u, v, e, rfl⟩)
theorem stp_first (a : Int) : stp a (-1, 0) = (0, 1) := by unfold stp; dsimp only; congr 1; omega
theorem pos_ear {x y : Int} {R : List Int} (h : PosL ((x - 1) :: (y - 1) :: R)) (hn : NegL (x :: 1 :: y :: R)) : PosL (x :: 1 :: y :: R) := by
  intro u v e
  match u, e with
  | [], e =>
    obtain rfl : v = x :: 1 :: y :: R := e.symm
    rw [List.append_nil]
    exact nn_ear (h.all (Rot.refl _))
  | [x'], e =>
    injection e with e1 e2
    subst e1
    obtain rfl : v = 1 :: y :: R := e2.symm
    have hA := h.all (Rot.refl _)
    have hB := h.all (Rot.of [x - 1] ((y - 1) :: R))
    have hN := neg_rot [x] (1 :: y :: R) hn (-1, 0)
    rw [nn_app]
    have hA2 := hA.2.2
    rw [stp_first] at hA2
    have hB2 := ((nn_app ((y - 1) :: R) [x - 1] (-1, 0)).1 hB).1.2
    rw [stp_first] at hB2
    have e3 : stp y (stp 1 (-1, 0)) = addP (stp (y - 1) (0, 1)) (0, 1) := by
      rw [stp_first]
      unfold stp addP
      dsimp only
      refine Prod.ext ?_ ?_ <;> dsimp only <;> omega
    have hR := nn_add R _ _ hA2 hB2
    rw [← e3] at hR
    have h1 : NN (1 :: y :: R) (-1, 0) := ⟨by decide, by rw [stp_first]; decide, hR⟩
    refine ⟨h1, ?_⟩
    have h2 := ((nn_app (1 :: y :: R) [] (-1, 0)).1 (by rw [List.append_nil]; exact h1)).2
    refine ⟨h2, ?_⟩
    rw [runS_app] at hN
    show 0 ≤ (stp x (runS (1 :: y :: R) (-1, 0))).2
    have e4 : stp x (runS (1 :: y :: R) (-1, 0)) = (-(-1), -0) := hN
    rw [e4]
    decide
  | [x', o'], e =>
    injection e with e1 e2
    injection e2 with e3 e4
    subst e1 e3
    obtain rfl : v = y :: R := e4.symm
    have hB := h.all (Rot.of [x - 1] ((y - 1) :: R))
    obtain ⟨hB1, hB2⟩ := (nn_app ((y - 1) :: R) [x - 1] (-1, 0)).1 hB
    have e5 : runS ((y - 1) :: R) (-1, 0) = runS (y :: R) (-1, 0) := by
      show runS R (stp (y - 1) (-1, 0)) = runS R (stp y (-1, 0))
      rw [stp_first, stp_first]
    rw [e5] at hB2
    rw [nn_app]
    refine ⟨⟨by decide, ?_⟩, ?_⟩
    · have := hB1.2
      rw [stp_first] at this ⊢
      exact this
    · generalize runS (y :: R) (-1, 0) = p at *
      obtain ⟨b, e⟩ := p
      obtain ⟨c1, c2⟩ := hB2
      have c1' : 0 ≤ e := c1
      have c2' : 0 ≤ (x - 1) * e - b := c2
      refine ⟨c1, ?_, ?_⟩
      · show 0 ≤ x * e - b
        grind
      · show 0 ≤ 1 * (x * e - b) - e
        grind
  | x' :: o' :: y' :: R1, e =>
    injection e with e1 e2
    injection e2 with e3 e4
    injection e4 with e5 e6
    subst e1 e3 e5 e6
    have hB := h.all (r := v ++ (x - 1) :: (y - 1) :: R1) ⟨(x - 1) :: (y - 1) :: R1, v, by simp, rfl⟩
    rw [nn_app] at hB ⊢
    exact ⟨hB.1, nn_ear hB.2⟩
theorem pos_red : ∀ (f : Nat) (l : List Int), l.length = f + 3 → red f l = true → PosL l
  | 0, l, _, h => by
    unfold red at h
    rw [decide_eq_true_eq] at h
    subst h
    intro u v e
    have hv : v ++ u = [1, 1, 1] := by
      match u, e with
      | [], e => simpa using e.symm
      | [a], e => injection e with e1 e2; subst e1 e2; rfl
      | [a, b], e => injection e with e1 e2; injection e2 with e3 e4; subst e1 e3 e4; rfl
      | [a, b, c], e => injection e with e1 e2; injection e2 with e3 e4; injection e4 with e5 e6; subst e1 e3 e5 e6; rfl
      | a :: b :: c :: d :: r, e => simp at e
    rw [hv]
    simp [NN, stp]
  | f + 1, l, hl, h => by
    have hN := neg_red (f + 1) l hl h
    unfold red at h
    rw [Bool.and_eq_true, Bool.not_eq_true', decide_eq_false_iff_not] at h
    obtain ⟨h1, h2⟩ := h
    have hb := at1_lt l l.length
    have ho := at1_one l l.length (by omega)
    have hlt : (at1 l l.length).toNat < l.length := by omega
    obtain ⟨x, y, R, r1, r2⟩ := cut_rot (by omega) hlt ho
    have hp := pos_red f _ (by rw [cutL_length _ _ hlt]; omega) h2
    exact (pos_ear (hp.rot r2) (r1.neg hN)).rot r1.symm
/-- the entries, from a place that is turned to the front -/
theorem nn_take : ∀ (l : List Int) (p : Int × Int) (s : Nat), NN l p → 0 ≤ (runS (l.take s) p).2
  | [], p, s, h => by rw [List.take_nil]; exact h
  | a :: l, p, 0, h => h.1
  | a :: l, p, s + 1, h => by
    rw [List.take_succ_cons]
    exact nn_take l (stp a p) s h.2
theorem isQ_pos {q : List Int} (h : isQ q = true) : PosL q := by
  have hl := isQ_len h
  rw [isQ_red, Bool.and_eq_true] at h
  exact pos_red _ _ (by omega) h.2
def rotN (q : List Int) (i : Nat) : List Int := q.drop i ++ q.take i
theorem rotN_length (q : List Int) (i : Nat) (h : i ≤ q.length) : (rotN q i).length = q.length := by unfold rotN; simp; omega
theorem rotN_get (q : List Int) (i s : Nat) (hi : i < q.length) (hs : s < q.length) : (rotN q i).getD s 0 = q.getD ((i + s) % q.length) 0 := by
  unfold rotN
  simp only [List.getD_eq_getElem?_getD]
  by_cases h : i + s < q.length
  · rw [List.getElem?_append_left (by simp; omega), List.getElem?_drop, Nat.mod_eq_of_lt h]
  · rw [List.getElem?_append_right (by simp; omega), List.length_drop, List.getElem?_take, if_pos (by omega)]
    have e : (i + s) % q.length = s - (q.length - i) := by rw [Nat.mod_eq_sub_mod (by omega), Nat.mod_eq_of_lt (by omega)]; omega
    rw [e]
theorem entS_turn (q : List Int) (i : Nat) (hi : i < q.length) : ∀ s, s ≤ q.length → entS q i s = (wrap64 (runS ((rotN q i).take s) (-1, 0)).1, wrap64 (runS ((rotN q i).take s) (-1, 0)).2) := by
  intro s
  induction s with
  | zero => intro _; simp [entS, runS]; constructor <;> (unfold wrap64; omega)
  | succ s ih =>
    intro hs
    unfold entS
    have hL := rotN_length q i (by omega)
    rw [ih (by omega), mdI_eq]
    have e0 : ((i : Int) + (s : Int)) % (q.length : Int) = (((i + s) % q.length : Nat) : Int) := by rw [Int.natCast_emod]; rfl
    have e1 : (rotN q i).take (s + 1) = (rotN q i).take s ++ [q.getD ((i + s) % q.length) 0] := by
      rw [List.take_succ_eq_append_getElem (by omega), ← rotN_get q i s hi (by omega)]
      congr 2
      simp [show s < (rotN q i).length by omega]
    rw [e0, Int.toNat_natCast, e1, runS_app]
    generalize runS ((rotN q i).take s) (-1, 0) = p
    show _ = (wrap64 (stp _ p).1, wrap64 (stp _ p).2)
    unfold stp
    dsimp only
    rw [wrap_stp]
theorem rotN_rot (q : List Int) (i : Nat) : Rot q (rotN q i) := ⟨q.take i, q.drop i, (List.take_append_drop i q).symm, rfl⟩
/-- from the first step on, the entry before is not negative either, and each is at most ten times as great -/
theorem run_bd {q : List Int} (h : isQ q = true) (i : Nat) (hi : i < q.length) : ∀ s, s + 1 ≤ q.length → 0 ≤ (runS ((rotN q i).take (s + 1)) (-1, 0)).1 ∧ 0 ≤ (runS ((rotN q i).take (s + 1)) (-1, 0)).2 ∧ (runS ((rotN q i).take (s + 1)) (-1, 0)).2 ≤ (10 : Int) ^ s := by
  have hl := isQ_len h
  have hL := rotN_length q i (by omega)
  have hp := (isQ_pos h).all (rotN_rot q i)
  intro s
  induction s with
  | zero =>
    intro hs
    have e : (rotN q i).take (0 + 1) = [(rotN q i).getD 0 0] := by
      rw [List.take_succ_eq_append_getElem (by omega)]
      simp [show 0 < (rotN q i).length by omega]
    rw [e]
    show 0 ≤ (stp _ (-1, 0)).1 ∧ 0 ≤ (stp _ (-1, 0)).2 ∧ (stp _ (-1, 0)).2 ≤ 10 ^ 0
    rw [stp_first]
    decide
  | succ s ih =>
    intro hs
    obtain ⟨h1, h2, h3⟩ := ih (by omega)
    have hn := nn_take _ _ (s + 1 + 1) hp
    have g := isQ_get h ((i + (s + 1)) % q.length) (Nat.mod_lt _ (by omega))
    have e1 : (rotN q i).take (s + 1 + 1) = (rotN q i).take (s + 1) ++ [q.getD ((i + (s + 1)) % q.length) 0] := by
      rw [List.take_succ_eq_append_getElem (by omega), ← rotN_get q i (s + 1) hi (by omega)]
      congr 2
      simp [show s + 1 < (rotN q i).length by omega]
    rw [e1, runS_app] at hn ⊢
    generalize runS ((rotN q i).take (s + 1)) (-1, 0) = p at *
    obtain ⟨b, e⟩ := p
    generalize q.getD ((i + (s + 1)) % q.length) 0 = a at *
    refine ⟨h2, hn, ?_⟩
    show a * e - b ≤ (10 : Int) ^ (s + 1)
    have h1' : 0 ≤ b := h1
    have h2' : 0 ≤ e := h2
    have h3' : e ≤ (10 : Int) ^ s := h3
    have m1 : a * e ≤ 10 * e := Int.mul_le_mul_of_nonneg_right (by omega) h2'
    rw [Int.pow_succ]
    omega
/-- an entry is not negative and small -/
theorem ent_bd {q : List Int} (h : isQ q = true) (i s : Nat) (hi : i < q.length) (hs : s + 1 ≤ q.length) : 0 ≤ ent q i ((i : Int) + ((s : Int) + 1)) ∧ ent q i ((i : Int) + ((s : Int) + 1)) ≤ 100000000000 := by
  have hl := isQ_len h
  unfold ent
  rw [show ((i : Int) + ((s : Int) + 1) - (i : Int)).toNat = s + 1 by omega, entS_turn q i hi (s + 1) hs]
  obtain ⟨_, h2, h3⟩ := run_bd h i hi s hs
  have h4 : (10 : Int) ^ s ≤ 10 ^ 11 := by
    have : (10 : Nat) ^ s ≤ 10 ^ 11 := Nat.pow_le_pow_right (by omega) (by omega)
    exact_mod_cast this
  have h5 : (10 : Int) ^ 11 = 100000000000 := by decide
  dsimp only
  rw [wrap_in' _ (by omega)]
  omega
end Go.Proofs.Ytfkkbjbgjmaciaa
