/- Farey lists: the model goes from two fractions to the next one, the program sorts all. Mathematics; nothing of the program. -/
import Derived.Test.YtaifgfmkkgndkabPolM
namespace Go.Proofs.Ytaifgfmkkgndkab
set_option linter.unusedVariables false
/-- the model's list: the next fraction out of the last two -/
def farN (n : Int) (a b : Int × Int) : Int × Int := (((n + a.2) / b.2) * b.1 - a.1, ((n + a.2) / b.2) * b.2 - a.2)
def farF (n : Int) : Nat → Int × Int → Int × Int → List (Int × Int)
  | 0, _, _ => []
  | k + 1, a, b => if b.2 ≤ 1 then [] else farN n a b :: farF n k b (farN n a b)
def far (n : Nat) : List (Int × Int) := (0, 1) :: (1, (n : Int)) :: farF n 500 (0, 1) (1, (n : Int))
/-- the program's list, as it is ahead of the sort: the fractions with the denominator d + 1 and a numerator less than m; those of n denominators -/
def frw (d m : Nat) : List (Int × Int) := ((List.range m).filter fun x => decide (Nat.gcd x (d + 1) = 1)).map fun (x : Nat) => ((x : Int), (d : Int) + 1)
def frs (n : Nat) : List (Int × Int) := (List.range n).flatMap fun d => frw d (d + 2)
/-- the same as what a sort wants -/
abbrev Fx : Type := Fin 41 × Fin 40
def fval (x : Fx) : Int × Int := ((x.1.val : Int), (x.2.val : Int) + 1)
def fto (p : Int × Int) : Fx := (Fin.ofNat 41 p.1.toNat, Fin.ofNat 40 (p.2.toNat - 1))
theorem fval_fto {p : Int × Int} (h1 : 0 ≤ p.1 ∧ p.1 ≤ 40) (h2 : 1 ≤ p.2 ∧ p.2 ≤ 40) : fval (fto p) = p := by
  unfold fval fto
  refine Prod.ext ?_ ?_
  · simp only [Fin.val_ofNat]
    rw [Nat.mod_eq_of_lt (by omega)]
    omega
  · simp only [Fin.val_ofNat]
    rw [Nat.mod_eq_of_lt (by omega)]
    omega
theorem fval_inj {x y : Fx} (h : fval x = fval y) : x = y := by
  unfold fval at h
  rw [Prod.mk.injEq] at h
  exact Prod.ext (Fin.ext (by omega)) (Fin.ext (by omega))
theorem fto_fval (x : Fx) : fto (fval x) = x := fval_inj (fval_fto (by unfold fval; dsimp only; omega) (by unfold fval; dsimp only; omega))
/-- a fraction of the list of n -/
def fOk (n : Nat) (p : Int × Int) : Bool := decide (0 ≤ p.1) && decide (p.1 ≤ p.2) && decide (1 ≤ p.2) && decide (p.2 ≤ n) && decide (Nat.gcd p.1.toNat p.2.toNat = 1)
def okSeq (n : Nat) : List (Int × Int) → Bool
  | a :: b :: c => decide (crs a b = 1) && fOk n a && okSeq n (b :: c)
  | [a] => fOk n a && decide (a.2 = 1)
  | [] => false
def okFar (n : Nat) : Bool := okSeq n (far n) && decide ((far n).length = (frs n).length) && decide ((far n).length ≤ 491)
theorem far_fin : ∀ n : Fin 40, okFar (n.val + 1) = true := by decide +kernel
theorem far_ok {n : Nat} (h1 : 1 ≤ n) (h2 : n ≤ 40) : okSeq n (far n) = true ∧ (far n).length = (frs n).length ∧ (far n).length ≤ 491 := by
  have h := far_fin ⟨n - 1, by omega⟩
  have e : n - 1 + 1 = n := by omega
  simp only [e] at h
  unfold okFar at h
  simpa [Bool.and_eq_true, and_assoc] using h
theorem okSeq_chn {n : Nat} : ∀ {l : List (Int × Int)}, okSeq n l = true → chn l ∧ ∀ p ∈ l, fOk n p = true
  | [], h => by simp [okSeq] at h
  | [a], h => by
    simp [okSeq] at h
    exact ⟨trivial, fun p hp => by simp at hp; rw [hp]; exact h.1⟩
  | a :: b :: c, h => by
    simp only [okSeq, Bool.and_eq_true, decide_eq_true_eq] at h
    obtain ⟨⟨h1, h2⟩, h3⟩ := h
    obtain ⟨i1, i2⟩ := okSeq_chn h3
    exact ⟨⟨h1, i1⟩, fun p hp => by
      rcases List.mem_cons.1 hp with rfl | hp
      · exact h2
      · exact i2 p hp⟩
theorem fOk_iff {n : Nat} {p : Int × Int} : fOk n p = true ↔ 0 ≤ p.1 ∧ p.1 ≤ p.2 ∧ 1 ≤ p.2 ∧ p.2 ≤ n ∧ Nat.gcd p.1.toNat p.2.toNat = 1 := by
  unfold fOk
  simp only [Bool.and_eq_true, decide_eq_true_eq, and_assoc]
theorem mem_frs {n : Nat} {p : Int × Int} (h : fOk n p = true) : p ∈ frs n := by
  obtain ⟨h1, h2, h3, h4, h5⟩ := fOk_iff.1 h
  unfold frs frw
  rw [List.mem_flatMap]
  refine ⟨p.2.toNat - 1, by rw [List.mem_range]; omega, ?_⟩
  rw [List.mem_map]
  refine ⟨p.1.toNat, ?_, Prod.ext (by dsimp only; omega) (by dsimp only; omega)⟩
  rw [List.mem_filter, List.mem_range]
  refine ⟨by omega, ?_⟩
  rw [decide_eq_true_eq, show p.2.toNat - 1 + 1 = p.2.toNat by omega]
  exact h5
theorem frs_ok {n : Nat} {p : Int × Int} (h : p ∈ frs n) : fOk n p = true := by
  unfold frs frw at h
  rw [List.mem_flatMap] at h
  obtain ⟨d, hd, h⟩ := h
  rw [List.mem_map] at h
  obtain ⟨x, hx, rfl⟩ := h
  rw [List.mem_filter, List.mem_range, decide_eq_true_eq] at hx
  rw [List.mem_range] at hd
  rw [fOk_iff]
  dsimp only
  refine ⟨by omega, by omega, by omega, by omega, ?_⟩
  rw [show ((d : Int) + 1).toNat = d + 1 by omega, Int.toNat_natCast]
  exact hx.2
theorem perm_of_sub {α : Type} [BEq α] [LawfulBEq α] : ∀ (l l' : List α), l.Nodup → (∀ x ∈ l, x ∈ l') → l'.length ≤ l.length → l.Perm l'
  | [], l', _, _, h => by
    have : l' = [] := List.eq_nil_of_length_eq_zero (by simpa using h)
    subst this
    exact List.Perm.nil
  | a :: l, l', hn, hs, hl => by
    have ha := hs a (by simp)
    have hp := List.perm_cons_erase ha
    rw [List.nodup_cons] at hn
    have ih := perm_of_sub l (l'.erase a) hn.2 (fun x hx => by
      have hne : x ≠ a := fun e => hn.1 (e ▸ hx)
      exact (List.mem_erase_of_ne hne).2 (hs x (List.mem_cons_of_mem _ hx))) (by
      rw [List.length_erase_of_mem ha]
      simp at hl
      omega)
    exact (ih.cons a).trans hp.symm
theorem chn_pair : ∀ {l : List (Int × Int)}, chn l → nng l → l.Pairwise fun x y => 1 ≤ crs x y
  | [], _, _ => List.Pairwise.nil
  | x :: l, h, hn => List.Pairwise.cons (crs_pos l x h hn) (chn_pair (chn_tail h) fun q hq => hn q (List.mem_cons_of_mem _ hq))
theorem crs_swap (a b : Int × Int) : crs a b = - crs b a := by unfold crs; grind
theorem crs_self (a : Int × Int) : crs a a = 0 := by unfold crs; rw [Int.mul_comm]; omega
theorem far_facts {n : Nat} (h1 : 1 ≤ n) (h2 : n ≤ 40) : chn (far n) ∧ nng (far n) ∧ (far n).Pairwise (fun x y => 1 ≤ crs x y) ∧ (far n).Perm (frs n) := by
  obtain ⟨g1, g2, _⟩ := far_ok h1 h2
  obtain ⟨c1, c2⟩ := okSeq_chn g1
  have hn : nng (far n) := fun p hp => by
    have := fOk_iff.1 (c2 p hp)
    omega
  have hpw := chn_pair c1 hn
  refine ⟨c1, hn, hpw, perm_of_sub _ _ ?_ (fun x hx => mem_frs (c2 x hx)) (by omega)⟩
  refine hpw.imp ?_
  rintro a b hab rfl
  rw [crs_self] at hab
  omega
/-- what is sorted and has the same fractions is the model's list -/
theorem far_uniq {n : Nat} (h1 : 1 ≤ n) (h2 : n ≤ 40) {l : List (Int × Int)} (hp : l.Perm (frs n)) (hs : l.Pairwise fun x y => ¬ crs x y < 0) : l = far n := by
  obtain ⟨_, _, f1, f2⟩ := far_facts h1 h2
  have hpf := hp.trans f2.symm
  have key : (far n).Pairwise (fun x y => 1 ≤ crs x y ∨ 1 ≤ crs y x) := f1.imp fun h => .inl h
  have kl : l.Pairwise (fun x y => 1 ≤ crs x y ∨ 1 ≤ crs y x) := hpf.symm.pairwise key fun h => h.symm
  have hs' : l.Pairwise (fun x y => 1 ≤ crs x y) := (hs.and kl).imp fun {x y} ⟨a, b⟩ => by
    have := crs_swap x y
    omega
  refine List.Perm.eq_of_pairwise (le := fun x y => 1 ≤ crs x y) ?_ hs' f1 hpf
  intro a b _ _ h3 h4
  have := crs_swap a b
  omega
theorem frs_map (n : Nat) (h2 : n ≤ 40) : ((frs n).map fto).map fval = frs n := by
  rw [List.map_map]
  conv => rhs; rw [← List.map_id (frs n)]
  refine List.map_congr_left fun p hp => ?_
  have := fOk_iff.1 (frs_ok hp)
  exact fval_fto (by omega) (by omega)
/-- the walk along the model's list -/
theorem far_step {n : Nat} : ∀ (k : Nat) (a b : Int × Int), okSeq n (a :: b :: farF n k a b) = true →
    ∀ j, j + 1 < (a :: b :: farF n k a b).length → 
    ((a :: b :: farF n k a b).getD (j + 1) (0, 0)).2 ≤ 1 ∧ (a :: b :: farF n k a b).length = j + 2 ∨ 1 < ((a :: b :: farF n k a b).getD (j + 1) (0, 0)).2 ∧ j + 2 < (a :: b :: farF n k a b).length ∧ (a :: b :: farF n k a b).getD (j + 2) (0, 0) = farN n ((a :: b :: farF n k a b).getD j (0, 0)) ((a :: b :: farF n k a b).getD (j + 1) (0, 0)) := by
  intro k
  induction k with
  | zero =>
    intro a b h j hj
    simp [farF] at hj ⊢
    obtain rfl : j = 0 := by omega
    simp only [farF, okSeq, Bool.and_eq_true, decide_eq_true_eq] at h
    left
    simp
    omega
  | succ k ih =>
    intro a b h j hj
    by_cases hb : b.2 ≤ 1
    · have e : farF n (k + 1) a b = [] := by unfold farF; rw [if_pos hb]
      rw [e] at hj ⊢
      obtain rfl : j = 0 := by simp at hj; omega
      exact .inl ⟨by simpa using hb, rfl⟩
    · have e : farF n (k + 1) a b = farN n a b :: farF n k b (farN n a b) := by conv => lhs; unfold farF
                                                                                rw [if_neg hb]
      rw [e] at hj h ⊢
      cases j with
      | zero => exact .inr ⟨by simp; omega, by simp, rfl⟩
      | succ j =>
        have h' : okSeq n (b :: farN n a b :: farF n k b (farN n a b)) = true := by
          simp only [okSeq, Bool.and_eq_true] at h ⊢
          exact h.2
        have := ih b (farN n a b) h' j (by simpa using hj)
        simpa using this
end Go.Proofs.Ytaifgfmkkgndkab
