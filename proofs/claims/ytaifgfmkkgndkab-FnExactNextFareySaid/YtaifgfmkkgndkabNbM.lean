/- Fractions as pairs: crosses, parents, what lies between two neighbours, plus terms. Mathematics; nothing of the program. -/
import Derived.Test.YtaifgfmkkgndkabContM
namespace Go.Proofs.Ytaifgfmkkgndkab
set_option linter.unusedVariables false
def crs (f g : Int × Int) : Int := g.1 * f.2 - f.1 * g.2
def med (f g : Int × Int) : Int × Int := (f.1 + g.1, f.2 + g.2)
/-- l and h are the parents of f -/
structure Par (f l h : Int × Int) : Prop where
  l1 : 0 ≤ l.1
  l2 : 0 ≤ l.2
  h1 : 0 ≤ h.1
  h2 : 0 ≤ h.2
  s1 : l.1 + h.1 = f.1
  s2 : l.2 + h.2 = f.2
  det : f.1 * l.2 - l.1 * f.2 = 1
theorem mul_one_le {a k : Int} (ha : 1 ≤ a) (hk : 1 ≤ k) : a ≤ a * k := by
  have := Int.mul_le_mul_of_nonneg_left hk (show 0 ≤ a by omega)
  omega
theorem Par.uniq {f l h l' h' : Int × Int} (f1 : 1 ≤ f.1) (p : Par f l h) (q : Par f l' h') : l = l' ∧ h = h' := by
  obtain ⟨a, b⟩ := f
  obtain ⟨x, y⟩ := l
  obtain ⟨u, v⟩ := h
  obtain ⟨x', y'⟩ := l'
  obtain ⟨u', v'⟩ := h'
  obtain ⟨p1, p2, p3, p4, p5, p6, p7⟩ := p
  obtain ⟨q1, q2, q3, q4, q5, q6, q7⟩ := q
  dsimp only at *
  have e : x - x' = a * (y * (x - x') - x * (y - y')) := by grind
  generalize y * (x - x') - x * (y - y') = k at e
  have hk : k = 0 ∨ 1 ≤ k ∨ k ≤ -1 := by omega
  have key : ∀ x y x' y' u v: Int, ∀ k : Int, 0 ≤ x' → x + u = a → y + v = b → 0 ≤ u → 0 ≤ v → 1 ≤ k → x - x' = a * k → a * y - x * b = 1 → False := by
    intro x y x' y' u v k h1 h2 h3 h4 h5 h6 h7 h8
    have g := mul_one_le f1 h6
    have e1 : x = a := by omega
    subst e1
    have g2 : x * (y - b) = 1 := by rw [Int.mul_sub]; exact h8
    have g3 : 0 ≤ x * (b - y) := Int.mul_nonneg (by omega) (by omega)
    have g4 : x * (y - b) = - (x * (b - y)) := by rw [← Int.mul_neg]; congr 1; omega
    omega
  rcases hk with hk | hk | hk
  · subst hk
    have e1 : x = x' := by simp at e; omega
    subst e1
    have e2 : a * (y - y') = 0 := by rw [Int.mul_sub]; omega
    have e3 : y - y' = 0 := by rcases Int.mul_eq_zero.1 e2 with h | h <;> omega
    have e4 : y = y' := by omega
    subst e4
    refine ⟨rfl, ?_⟩
    rw [Prod.mk.injEq]
    omega
  · exact (key x y x' y' u v k q1 p5 p6 p3 p4 hk e p7).elim
  · exact (key x' y' x y u' v' (-k) p1 q5 q6 q3 q4 (by omega) (by rw [Int.mul_neg]; omega) q7).elim

theorem cop {a b p u v : Int} (h : Nat.gcd a.toNat b.toNat = 1) (hp : 0 ≤ p) (hu : 0 ≤ u) (hv : 0 ≤ v) (ha : a = p * u) (hb : b = p * v) : p = 1 := by
  obtain ⟨p, rfl⟩ := Int.eq_ofNat_of_zero_le hp
  obtain ⟨u, rfl⟩ := Int.eq_ofNat_of_zero_le hu
  obtain ⟨v, rfl⟩ := Int.eq_ofNat_of_zero_le hv
  have ha' : a.toNat = p * u := by rw [ha, ← Int.natCast_mul]; rfl
  have hb' : b.toNat = p * v := by rw [hb, ← Int.natCast_mul]; rfl
  have hd : p ∣ Nat.gcd a.toNat b.toNat := Nat.dvd_gcd (by rw [ha']; exact Nat.dvd_mul_right p u) (by rw [hb']; exact Nat.dvd_mul_right p v)
  rw [h, Nat.dvd_one] at hd
  omega

/-- f lies between l and r, which are neighbours -/
structure Btw (f l r : Int × Int) : Prop where
  l1 : 0 ≤ l.1
  l2 : 0 ≤ l.2
  r1 : 0 ≤ r.1
  r2 : 0 ≤ r.2
  det : r.1 * l.2 - l.1 * r.2 = 1
  lo : 1 ≤ crs l f
  hi : 1 ≤ crs f r
theorem Btw.start {f : Int × Int} (f1 : 1 ≤ f.1) (f2 : 1 ≤ f.2) : Btw f (0, 1) (1, 0) := ⟨by simp, by simp, by simp, by simp, by simp, by simp [crs]; exact f1, by simp [crs]; exact f2⟩
theorem Btw.sum1 {f l r : Int × Int} (h : Btw f l r) : f.1 = crs f r * l.1 + crs l f * r.1 := by
  have := h.det; unfold crs; grind
theorem Btw.sum2 {f l r : Int × Int} (h : Btw f l r) : f.2 = crs f r * l.2 + crs l f * r.2 := by
  have := h.det; unfold crs; grind
theorem one_mul_le {a k : Int} (ha : 0 ≤ a) (hk : 1 ≤ k) : a ≤ k * a := by
  have := Int.mul_le_mul_of_nonneg_right (c := a) hk ha
  omega
theorem Btw.le1 {f l r : Int × Int} (h : Btw f l r) : l.1 + r.1 ≤ f.1 := by
  have := h.sum1; have := one_mul_le h.l1 h.hi; have := one_mul_le h.r1 h.lo; omega
theorem Btw.le2 {f l r : Int × Int} (h : Btw f l r) : l.2 + r.2 ≤ f.2 := by
  have := h.sum2; have := one_mul_le h.l2 h.hi; have := one_mul_le h.r2 h.lo; omega
theorem crs_lo (f l r : Int × Int) (k : Int) : crs (l.1 + k * r.1, l.2 + k * r.2) f = crs l f - k * crs f r := by unfold crs; grind
theorem crs_hi (f l r : Int × Int) (k : Int) : crs f (r.1 + k * l.1, r.2 + k * l.2) = crs f r - k * crs l f := by unfold crs; grind
theorem crs_med (f l r : Int × Int) : crs (med l r) f = crs l f - crs f r := by unfold crs med; grind
theorem crs_med' (f l r : Int × Int) : crs f (med l r) = crs f r - crs l f := by unfold crs med; grind
theorem Btw.up {f l r : Int × Int} (h : Btw f l r) {k : Int} (k0 : 0 ≤ k) (hk : k * crs f r < crs l f) : Btw f (l.1 + k * r.1, l.2 + k * r.2) r := by
  refine ⟨?_, ?_, h.r1, h.r2, ?_, ?_, h.hi⟩
  · have := Int.mul_nonneg k0 h.r1; have := h.l1; dsimp only; omega
  · have := Int.mul_nonneg k0 h.r2; have := h.l2; dsimp only; omega
  · have := h.det; dsimp only; grind
  · rw [crs_lo]; omega
theorem Btw.down {f l r : Int × Int} (h : Btw f l r) {k : Int} (k0 : 0 ≤ k) (hk : k * crs l f < crs f r) : Btw f l (r.1 + k * l.1, r.2 + k * l.2) := by
  refine ⟨h.l1, h.l2, ?_, ?_, ?_, h.lo, ?_⟩
  · have := Int.mul_nonneg k0 h.l1; have := h.r1; dsimp only; omega
  · have := Int.mul_nonneg k0 h.l2; have := h.r2; dsimp only; omega
  · have := h.det; dsimp only; grind
  · rw [crs_hi]; omega
theorem Btw.par {f l r : Int × Int} (h : Btw f l r) (e : med l r = f) : Par f l r := by
  subst e
  refine ⟨h.l1, h.l2, h.r1, h.r2, rfl, rfl, ?_⟩
  have := h.det
  unfold med
  grind
/-- where the mediant's cross is 0 it is the fraction itself -/
theorem Btw.meet {f l r : Int × Int} (h : Btw f l r) (hc : Nat.gcd f.1.toNat f.2.toNat = 1) : crs (med l r) f = 0 ↔ med l r = f := by
  constructor
  · intro e
    rw [crs_med] at e
    have e2 : crs l f = crs f r := by omega
    have s1 := h.sum1
    have s2 := h.sum2
    rw [← e2, ← Int.mul_add] at s1 s2
    have h1 := cop hc (by have := h.lo; omega) (by have := h.l1; have := h.r1; omega) (by have := h.l2; have := h.r2; omega) s1 s2
    rw [h1] at s1 s2
    unfold med
    refine Prod.ext ?_ ?_ <;> dsimp only <;> omega
  · intro e
    rw [e]
    unfold crs
    rw [Int.mul_comm]
    omega
theorem Btw.upM {f l r : Int × Int} (h : Btw f l r) (hk : 0 < crs (med l r) f) : Btw f (med l r) r := by
  rw [crs_med] at hk
  have := h.up (k := 1) (by omega) (by omega)
  simpa [med] using this
theorem Btw.downM {f l r : Int × Int} (h : Btw f l r) (hk : crs (med l r) f < 0) : Btw f l (med l r) := by
  rw [crs_med] at hk
  have := h.down (k := 1) (by omega) (by omega)
  simpa [med, Int.add_comm] using this
/-- how often one can go on: (x - 1) / y -/
theorem often {x y : Int} (hy : 1 ≤ y) (hx : y < x) : 1 ≤ (x - 1) / y ∧ (x - 1) / y * y < x := by
  have e := Int.mul_ediv_add_emod (x - 1) y
  have e1 := Int.emod_nonneg (x - 1) (show y ≠ 0 by omega)
  have e2 := Int.emod_lt_of_pos (x - 1) (show 0 < y by omega)
  refine ⟨?_, by rw [Int.mul_comm]; omega⟩
  rw [Int.le_ediv_iff_mul_le (by omega)]
  omega

/-- the steps of the plus terms of f -/
structure Cf (f P N : Int × Int) (n d : Int) : Prop where
  p1 : 0 ≤ P.1
  p2 : 0 ≤ P.2
  n1 : 0 ≤ N.1
  n2 : 0 ≤ N.2
  hn : 1 ≤ n
  hd : 0 ≤ d
  e1 : n * N.1 + d * P.1 = f.1
  e2 : n * N.2 + d * P.2 = f.2
  det : P.1 * N.2 - N.1 * P.2 = 1 ∨ P.1 * N.2 - N.1 * P.2 = -1
  gcd : Nat.gcd n.toNat d.toNat = 1
  last : d = 0 → P.1 ≤ N.1 ∧ P.2 ≤ N.2
theorem Cf.start {f : Int × Int} (f1 : 1 ≤ f.1) (f2 : 1 ≤ f.2) (h : Nat.gcd f.1.toNat f.2.toNat = 1) : Cf f (0, 1) (1, 0) f.1 f.2 :=
  ⟨by simp, by simp, by simp, by simp, f1, by omega, by simp, by simp, by simp, h, by omega⟩
theorem gcd_mod {n d : Int} (hn : 0 ≤ n) (hd : 0 ≤ d) : Nat.gcd d.toNat (n % d).toNat = Nat.gcd n.toNat d.toNat := by
  obtain ⟨n, rfl⟩ := Int.eq_ofNat_of_zero_le hn
  obtain ⟨d, rfl⟩ := Int.eq_ofNat_of_zero_le hd
  have : ((n : Int) % (d : Int)).toNat = n % d := by rw [← Int.natCast_emod]; rfl
  rw [this]
  simp only [Int.toNat_natCast]
  rw [Nat.gcd_comm n d, Nat.gcd_rec d n, Nat.gcd_comm]
theorem Cf.step {f P N : Int × Int} {n d : Int} (h : Cf f P N n d) (hd1 : 1 ≤ d) : Cf f N (n / d * N.1 + P.1, n / d * N.2 + P.2) d (n % d) := by
  have e := Int.mul_ediv_add_emod n d
  have r0 := Int.emod_nonneg n (show d ≠ 0 by omega)
  have t0 : 0 ≤ n / d := Int.ediv_nonneg (by have := h.hn; omega) (by omega)
  have hg := gcd_mod (n := n) (d := d) (by have := h.hn; omega) h.hd
  generalize n / d = t at *
  generalize n % d = r at *
  have e1 := h.e1
  have e2 := h.e2
  refine ⟨h.n1, h.n2, ?_, ?_, hd1, r0, ?_, ?_, ?_, ?_, ?_⟩
  · have := Int.mul_nonneg t0 h.n1; have := h.p1; dsimp only; omega
  · have := Int.mul_nonneg t0 h.n2; have := h.p2; dsimp only; omega
  · dsimp only; grind
  · dsimp only; grind
  · rcases h.det with g | g
    · right; dsimp only; grind
    · left; dsimp only; grind
  · rw [hg]; exact h.gcd
  · intro er
    subst er
    have ht : 1 ≤ t := by
      rcases (show t = 0 ∨ 1 ≤ t by omega) with h0 | h0
      · subst h0; have := h.hn; simp at e; omega
      · exact h0
    have g1 := one_mul_le h.n1 ht
    have g2 := one_mul_le h.n2 ht
    have := h.p1
    have := h.p2
    dsimp only
    omega
theorem Cf.le {f P N : Int × Int} {n d : Int} (h : Cf f P N n d) : N.1 ≤ f.1 ∧ N.2 ≤ f.2 ∧ P.1 ≤ f.1 ∧ P.2 ≤ f.2 := by
  have a1 := one_mul_le h.n1 h.hn
  have a2 := one_mul_le h.n2 h.hn
  have a3 := Int.mul_nonneg h.hd h.p1
  have a4 := Int.mul_nonneg h.hd h.p2
  have e1 := h.e1
  have e2 := h.e2
  refine ⟨by omega, by omega, ?_⟩
  rcases (show d = 0 ∨ 1 ≤ d by have := h.hd; omega) with h0 | h0
  · have := h.last h0
    omega
  · have := one_mul_le h.p1 h0
    have := one_mul_le h.p2 h0
    have := Int.mul_nonneg (show 0 ≤ n by have := h.hn; omega) h.n1
    have := Int.mul_nonneg (show 0 ≤ n by have := h.hn; omega) h.n2
    omega
theorem Cf.step_le {f P N : Int × Int} {n d : Int} (h : Cf f P N n d) (hd1 : 1 ≤ d) : n / d * N.1 + P.1 ≤ f.1 ∧ n / d * N.2 + P.2 ≤ f.2 ∧ 0 ≤ n / d ∧ 0 ≤ n / d * N.1 ∧ 0 ≤ n / d * N.2 ∧ 0 ≤ n % d ∧ n % d < d := by
  have a := (h.step hd1).le
  have t0 : 0 ≤ n / d := Int.ediv_nonneg (by have := h.hn; omega) (by omega)
  exact ⟨a.1, a.2.1, t0, Int.mul_nonneg t0 h.n1, Int.mul_nonneg t0 h.n2, Int.emod_nonneg n (by omega), Int.emod_lt_of_pos n (by omega)⟩
theorem Cf.done {f P N : Int × Int} {n : Int} (h : Cf f P N n 0) : N = f ∧ (crs P (f.1 - P.1, f.2 - P.2) < 0 → Par f (f.1 - P.1, f.2 - P.2) P) ∧ (¬ crs P (f.1 - P.1, f.2 - P.2) < 0 → Par f P (f.1 - P.1, f.2 - P.2)) := by
  have hn : n = 1 := by
    have := h.gcd
    simp at this
    omega
  subst hn
  have e1 := h.e1
  have e2 := h.e2
  have hN : N = f := Prod.ext (by omega) (by omega)
  subst hN
  obtain ⟨l1, l2⟩ := h.last rfl
  have hx : crs P (N.1 - P.1, N.2 - P.2) = N.1 * P.2 - P.1 * N.2 := by unfold crs; grind
  rw [hx]
  refine ⟨rfl, fun hs => ⟨by dsimp only; omega, by dsimp only; omega, h.p1, h.p2, by dsimp only; omega, by dsimp only; omega, ?_⟩, fun hs => ⟨h.p1, h.p2, by dsimp only; omega, by dsimp only; omega, by dsimp only; omega, by dsimp only; omega, ?_⟩⟩
  · rcases h.det with g | g
    · dsimp only; grind
    · omega
  · rcases h.det with g | g
    · omega
    · omega
theorem Cf.ex {f : Int × Int} : ∀ (m : Nat) (P N : Int × Int) (n d : Int), d.toNat ≤ m → Cf f P N n d → ∃ l r, Par f l r := by
  intro m
  induction m with
  | zero =>
    intro P N n d hm h
    have : d = 0 := by have := h.hd; omega
    subst this
    by_cases hs : crs P (f.1 - P.1, f.2 - P.2) < 0
    · exact ⟨_, _, h.done.2.1 hs⟩
    · exact ⟨_, _, h.done.2.2 hs⟩
  | succ m ih =>
    intro P N n d hm h
    by_cases h0 : d = 0
    · exact ih P N n d (by omega) h
    · have hd := h.hd
      refine ih _ _ _ _ ?_ (h.step (by omega))
      have := Int.emod_lt_of_pos n (show 0 < d by omega)
      have := Int.emod_nonneg n (show d ≠ 0 by omega)
      omega
theorem par_ex {f : Int × Int} (f1 : 1 ≤ f.1) (f2 : 1 ≤ f.2) (h : Nat.gcd f.1.toNat f.2.toNat = 1) : ∃ l r, Par f l r := Cf.ex _ _ _ _ _ (Nat.le_refl _) (Cf.start f1 f2 h)
end Go.Proofs.Ytaifgfmkkgndkab
