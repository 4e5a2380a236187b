/- Lists of diagonals in lexicographic order: plain mathematics. -/
import Derived.Test.YtbpaaoeefcebeabFlipM
import Derived.Test.YtbpaaoeefcebeabTurnM
namespace Go.Proofs.Ytbpaaoeefcebeab
set_option linter.unusedVariables false

/-- comes before, of lists as long as each other -/
def lexB : List (Int × Int) → List (Int × Int) → Bool
  | x :: a, y :: b => if x = y then lexB a b else ltB x.1 x.2 y.1 y.2
  | [], _ => false
  | _ :: _, [] => false
/-- compared -/
def cmpL : List (Int × Int) → List (Int × Int) → Int
  | [], [] => 0
  | [], _ :: _ => -1
  | _ :: _, [] => 1
  | x :: a, y :: b => if cmpD x.1 x.2 y.1 y.2 = 0 then cmpL a b else cmpD x.1 x.2 y.1 y.2
theorem cmpD_zero {a b c d : Int} : cmpD a b c d = 0 ↔ a = c ∧ b = d := by
  unfold cmpD
  split
  · omega
  split
  · omega
  split
  · omega
  split <;> omega
theorem cmpD_neg {a b c d : Int} : cmpD a b c d < 0 ↔ a < c ∨ (a = c ∧ b < d) := by
  unfold cmpD
  split
  · omega
  split
  · omega
  split
  · omega
  split <;> omega
theorem cmpD_range (a b c d : Int) : cmpD a b c d = -1 ∨ cmpD a b c d = 0 ∨ cmpD a b c d = 1 := by
  unfold cmpD
  split
  · omega
  split
  · omega
  split
  · omega
  split <;> omega
theorem cmpL_range : ∀ a b : List (Int × Int), cmpL a b = -1 ∨ cmpL a b = 0 ∨ cmpL a b = 1
  | [], [] => .inr (.inl rfl)
  | [], _ :: _ => .inl rfl
  | _ :: _, [] => .inr (.inr rfl)
  | x :: a, y :: b => by
    unfold cmpL
    split
    · exact cmpL_range a b
    · exact cmpD_range _ _ _ _
theorem cmpL_zero : ∀ {a b : List (Int × Int)}, cmpL a b = 0 ↔ a = b
  | [], [] => by simp [cmpL]
  | [], _ :: _ => by simp [cmpL]
  | _ :: _, [] => by simp [cmpL]
  | (x1, x2) :: a, (y1, y2) :: b => by
    unfold cmpL
    split
    · rename_i h
      rw [cmpL_zero]
      have := cmpD_zero.1 h
      simp only [List.cons.injEq, Prod.mk.injEq]
      constructor
      · intro e; exact ⟨this, e⟩
      · intro e; exact e.2
    · rename_i h
      constructor
      · intro e; exact absurd e h
      · intro e
        injection e with e1 e2
        injection e1 with e3 e4
        exact absurd (cmpD_zero.2 ⟨e3, e4⟩) h
theorem cmpL_refl (a : List (Int × Int)) : cmpL a a = 0 := cmpL_zero.2 rfl
theorem cmpL_trans : ∀ {a b c : List (Int × Int)}, cmpL a b < 0 → cmpL b c < 0 → cmpL a c < 0
  | [], [], c => by intro h; simp [cmpL] at h
  | [], _ :: _, [] => by intro _ h; simp [cmpL] at h
  | [], _ :: _, _ :: _ => by intro _ _; simp [cmpL]
  | _ :: _, [], c => by intro h; simp [cmpL] at h
  | _ :: _, _ :: _, [] => by intro _ h; simp [cmpL] at h
  | x :: a, y :: b, z :: c => by
    unfold cmpL
    intro h1 h2
    have nx := cmpD_neg (a := x.1) (b := x.2) (c := y.1) (d := y.2)
    have ny := cmpD_neg (a := y.1) (b := y.2) (c := z.1) (d := z.2)
    have nz := cmpD_neg (a := x.1) (b := x.2) (c := z.1) (d := z.2)
    have zx := cmpD_zero (a := x.1) (b := x.2) (c := y.1) (d := y.2)
    have zy := cmpD_zero (a := y.1) (b := y.2) (c := z.1) (d := z.2)
    have zz := cmpD_zero (a := x.1) (b := x.2) (c := z.1) (d := z.2)
    generalize cmpD x.1 x.2 y.1 y.2 = p at *
    generalize cmpD y.1 y.2 z.1 z.2 = q at *
    generalize cmpD x.1 x.2 z.1 z.2 = r at *
    by_cases hp : p = 0
    · rw [if_pos hp] at h1
      by_cases hq : q = 0
      · rw [if_pos hq] at h2
        rw [if_pos (by rw [zz]; have := zx.1 hp; have := zy.1 hq; omega)]
        exact cmpL_trans h1 h2
      · rw [if_neg hq] at h2
        have := zx.1 hp
        have := ny.1 h2
        have hr := nz.2 (by omega)
        rw [if_neg (by omega)]
        exact hr
    · rw [if_neg hp] at h1
      have k1 := nx.1 h1
      by_cases hq : q = 0
      · have := zy.1 hq
        have hr := nz.2 (by omega)
        rw [if_neg (by omega)]
        exact hr
      · rw [if_neg hq] at h2
        have := ny.1 h2
        have hr := nz.2 (by omega)
        rw [if_neg (by omega)]
        exact hr
theorem cmpL_lex : ∀ {a b : List (Int × Int)}, a.length = b.length → decide (cmpL a b < 0) = lexB a b
  | [], [] => by intro _; rfl
  | [], _ :: _ => by intro h; simp at h
  | _ :: _, [] => by intro h; simp at h
  | x :: a, y :: b => by
    intro h
    unfold cmpL lexB
    have nx := cmpD_neg (a := x.1) (b := x.2) (c := y.1) (d := y.2)
    have zx := cmpD_zero (a := x.1) (b := x.2) (c := y.1) (d := y.2)
    by_cases hp : cmpD x.1 x.2 y.1 y.2 = 0
    · have := zx.1 hp
      have hxy : x = y := Prod.ext this.1 this.2
      rw [if_pos hp, if_pos hxy]
      exact cmpL_lex (by simpa using h)
    · have hxy : x ≠ y := fun e => hp (zx.2 (by rw [e]; exact ⟨rfl, rfl⟩))
      rw [if_neg hp, if_neg hxy]
      unfold ltB
      exact decide_eq_decide.2 nx
theorem lexB_refl (a : List (Int × Int)) : lexB a a = false := by rw [← cmpL_lex rfl, cmpL_refl]; rfl

theorem lexB_at : ∀ {l r : List (Int × Int)} {k : Nat}, k < l.length → k < r.length → l.take k = r.take k → l.getD k (0, 0) ≠ r.getD k (0, 0) → lexB l r = ltB (l.getD k (0, 0)).1 (l.getD k (0, 0)).2 (r.getD k (0, 0)).1 (r.getD k (0, 0)).2
  | [], _, _ => by intro h; simp at h
  | _ :: _, [], _ => by intro _ h; simp at h
  | x :: l, y :: r, 0 => by
    intro _ _ _ h
    unfold lexB
    simp only [List.getD_cons_zero] at h ⊢
    rw [if_neg h]
  | x :: l, y :: r, k + 1 => by
    intro h1 h2 h3 h4
    simp only [List.take_succ_cons, List.cons.injEq] at h3
    unfold lexB
    rw [if_pos h3.1]
    simp only [List.getD_cons_succ] at h4 ⊢
    exact lexB_at (by simpa using h1) (by simpa using h2) h3.2 h4
theorem cmpL_at : ∀ {l r : List (Int × Int)} {k : Nat}, k < l.length → k < r.length → l.take k = r.take k → cmpD (l.getD k (0, 0)).1 (l.getD k (0, 0)).2 (r.getD k (0, 0)).1 (r.getD k (0, 0)).2 ≠ 0 → cmpL l r = cmpD (l.getD k (0, 0)).1 (l.getD k (0, 0)).2 (r.getD k (0, 0)).1 (r.getD k (0, 0)).2
  | [], _, _ => by intro h; simp at h
  | _ :: _, [], _ => by intro _ h; simp at h
  | x :: l, y :: r, 0 => by
    intro _ _ _ h
    unfold cmpL
    simp only [List.getD_cons_zero] at h ⊢
    rw [if_neg h]
  | x :: l, y :: r, k + 1 => by
    intro h1 h2 h3 h4
    simp only [List.take_succ_cons, List.cons.injEq] at h3
    unfold cmpL
    rw [if_pos (cmpD_zero.2 (by rw [h3.1]; exact ⟨rfl, rfl⟩))]
    simp only [List.getD_cons_succ] at h4 ⊢
    exact cmpL_at (by simpa using h1) (by simpa using h2) h3.2 h4
theorem cmpL_short : ∀ {l r : List (Int × Int)}, l.length < r.length → l = r.take l.length → cmpL l r = -1
  | [], [] => by intro h; simp at h
  | [], _ :: _ => by intro _ _; rfl
  | _ :: _, [] => by intro h; simp at h
  | x :: l, y :: r => by
    intro h1 h2
    simp only [List.length_cons, List.take_succ_cons, List.cons.injEq] at h2
    unfold cmpL
    rw [if_pos (cmpD_zero.2 (by rw [h2.1]; exact ⟨rfl, rfl⟩))]
    exact cmpL_short (by simpa using h1) h2.2
theorem cmpL_long : ∀ {l r : List (Int × Int)}, r.length < l.length → l.take r.length = r → cmpL l r = 1
  | [], _ => by intro h; simp at h
  | _ :: _, [] => by intro _ _; rfl
  | x :: l, y :: r => by
    intro h1 h2
    simp only [List.length_cons, List.take_succ_cons, List.cons.injEq] at h2
    unfold cmpL
    rw [if_pos (cmpD_zero.2 (by rw [h2.1]; exact ⟨rfl, rfl⟩))]
    exact cmpL_long (by simpa using h1) h2.2

/-- the first one of k + 1 lists -/
def minF (f : Nat → List (Int × Int)) : Nat → List (Int × Int)
  | 0 => f 0
  | k + 1 => if lexB (f (k + 1)) (minF f k) = true then f (k + 1) else minF f k
theorem minF_yes {f : Nat → List (Int × Int)} {k : Nat} (h : lexB (f (k + 1)) (minF f k) = true) : minF f (k + 1) = f (k + 1) := by
  conv => lhs; unfold minF
  rw [if_pos h]
theorem minF_no {f : Nat → List (Int × Int)} {k : Nat} (h : lexB (f (k + 1)) (minF f k) = false) : minF f (k + 1) = minF f k := by
  conv => lhs; unfold minF
  rw [if_neg (by rw [h]; simp)]
theorem minF_ex (f : Nat → List (Int × Int)) : ∀ k, ∃ j, j ≤ k ∧ minF f k = f j := by
  intro k
  induction k with
  | zero => exact ⟨0, Nat.le_refl _, rfl⟩
  | succ k ih =>
    cases h : lexB (f (k + 1)) (minF f k)
    · obtain ⟨j, hj, e⟩ := ih
      exact ⟨j, by omega, by rw [minF_no h, e]⟩
    · exact ⟨k + 1, Nat.le_refl _, minF_yes h⟩
/-- the triangulation turned by k; the first one of all turned ones; mirrored; the first one of a class -/
def trn (n : Nat) (l : List (Int × Int)) (k : Nat) : List (Int × Int) := sortD (mvL (turnF n (k : Int)) l)
def leastL (n : Nat) (l : List (Int × Int)) : List (Int × Int) := minF (trn n l) (n - 1)
def mirL (n : Nat) (l : List (Int × Int)) : List (Int × Int) := sortD (mvL (mirrF n) l)
def classL (n : Nat) (l : List (Int × Int)) : List (Int × Int) := if lexB (leastL n (mirL n l)) (leastL n l) = true then leastL n (mirL n l) else leastL n l
theorem trn_length (n : Nat) (l : List (Int × Int)) (k : Nat) : (trn n l k).length = l.length := by unfold trn; rw [sortD_length, mvL_length]
theorem leastL_length (n : Nat) (l : List (Int × Int)) : (leastL n l).length = l.length := by
  obtain ⟨j, _, e⟩ := minF_ex (trn n l) (n - 1)
  unfold leastL
  rw [e, trn_length]
theorem mirL_length (n : Nat) (l : List (Int × Int)) : (mirL n l).length = l.length := by unfold mirL; rw [sortD_length, mvL_length]
theorem classL_length (n : Nat) (l : List (Int × Int)) : (classL n l).length = l.length := by
  unfold classL
  split
  · rw [leastL_length, mirL_length]
  · rw [leastL_length]
theorem sort_self {l : List (Int × Int)} (h : l.Pairwise leP) : sortD l = l := (sortD_unique h (List.Perm.refl _)).symm
theorem Tri.sorted {n : Int} {l : List (Int × Int)} (h : Tri n l) : l.Pairwise leP := h.lt.imp fun hd => ltB_true hd
theorem trn_zero {n : Nat} {l : List (Int × Int)} (h : Tri n l) : trn n l 0 = l := by
  unfold trn
  have e : mvL (turnF n ((0 : Nat) : Int)) l = l := by
    unfold mvL
    conv => rhs; rw [← List.map_id l]
    refine List.map_congr_left fun d hd => ?_
    have := h.dg d hd
    unfold mvD turnF
    have h1 : (d.1 + ((0 : Nat) : Int)) % (n : Int) = d.1 := by rw [Int.natCast_zero, Int.add_zero]; exact Int.emod_eq_of_lt this.1 (by omega)
    have h2 : (d.2 + ((0 : Nat) : Int)) % (n : Int) = d.2 := by rw [Int.natCast_zero, Int.add_zero]; exact Int.emod_eq_of_lt (by omega) (by omega)
    rw [h1, h2]
    exact Prod.ext (by show min d.1 d.2 = d.1; omega) (by show max d.1 d.2 = d.2; omega)
  rw [e]
  exact sort_self h.sorted
theorem mem_sortD {l : List (Int × Int)} {d : Int × Int} : d ∈ sortD l ↔ d ∈ l := (sortD_spec l).2.mem_iff
theorem mir_tri {n : Nat} {l : List (Int × Int)} (h : Tri n l) : Tri n (mirL n l) := by
  have hmem : ∀ d ∈ mirL n l, ∃ e ∈ l, d = ((n : Int) - 1 - e.2, (n : Int) - 1 - e.1) := fun d hd => by
    unfold mirL at hd
    rw [mem_sortD] at hd
    unfold mvL at hd
    rw [List.mem_map] at hd
    obtain ⟨e, he, rfl⟩ := hd
    have := h.dg e he
    refine ⟨e, he, ?_⟩
    unfold mvD mirrF
    exact Prod.ext (by dsimp only; omega) (by dsimp only; omega)
  have hnd : (mirL n l).Nodup := by
    unfold mirL
    rw [(sortD_spec _).2.nodup_iff]
    unfold mvL
    refine List.pairwise_map.2 (List.Pairwise.imp_of_mem ?_ h.nodup)
    intro d e hd he hne hde
    refine hne ?_
    have h1 := h.dg d hd
    have h2 := h.dg e he
    unfold mvD mirrF at hde
    injection hde with h3 h4
    exact Prod.ext (by omega) (by omega)
  refine ⟨h.n3, h.n12, by rw [mirL_length]; exact h.len, fun d hd => ?_, fun d hd e he => ?_, ?_⟩
  · obtain ⟨e, he, rfl⟩ := hmem d hd
    have := h.dg e he
    dsimp only
    omega
  · obtain ⟨d', hd', rfl⟩ := hmem d hd
    obtain ⟨e', he', rfl⟩ := hmem e he
    have := h.nc d' hd' e' he'
    rw [crB_no] at this ⊢
    dsimp only
    omega
  · have hs : (mirL n l).Pairwise leP := (sortD_spec _).1
    refine List.Pairwise.imp₂ ?_ hs hnd
    rintro ⟨a, b⟩ ⟨c, d⟩ hle hne
    rw [ltB_iff]
    unfold leP at hle
    have : ¬(a = c ∧ b = d) := fun ⟨e1, e2⟩ => hne (by rw [e1, e2])
    dsimp only at hle ⊢
    omega
/-- what LeastTurned and LeastOfClass tell -/
def ltR (n : Int) (l : List (Int × Int)) : List (Int × Int) := if triB n l = true then leastL n.toNat l else []
def clR (n : Int) (l : List (Int × Int)) : List (Int × Int) := if triB n l = true then classL n.toNat l else []
def omR (n : Int) (l : List (Int × Int)) : Bool := triB n l && decide (leastL n.toNat l = leastL n.toNat (mirL n.toNat l))
theorem ltR_no {n : Int} {l : List (Int × Int)} (h : triB n l = false) : ltR n l = [] := by simp [ltR, h]
theorem ltR_yes {n : Nat} {l : List (Int × Int)} (h : triB n l = true) : ltR n l = leastL n l := by simp [ltR, h]
theorem clR_no {n : Int} {l : List (Int × Int)} (h : triB n l = false) : clR n l = [] := by simp [clR, h]
theorem clR_yes {n : Nat} {l : List (Int × Int)} (h : triB n l = true) : clR n l = classL n l := by simp [clR, h]
theorem omR_no {n : Int} {l : List (Int × Int)} (h : triB n l = false) : omR n l = false := by simp [omR, h]
theorem omR_yes {n : Nat} {l : List (Int × Int)} (h : triB n l = true) : omR n l = decide (leastL n l = leastL n (mirL n l)) := by simp [omR, h]
theorem ltR_length (n : Int) (l : List (Int × Int)) : (ltR n l).length ≤ 1000000000 := by
  cases h : triB n l
  · rw [ltR_no h]; simp
  · have := tri_n h
    obtain ⟨m, rfl⟩ := Int.eq_ofNat_of_zero_le (show 0 ≤ n by omega)
    rw [ltR_yes h, leastL_length]; omega
theorem clR_length (n : Int) (l : List (Int × Int)) : (clR n l).length ≤ 1000000000 := by
  cases h : triB n l
  · rw [clR_no h]; simp
  · have := tri_n h
    obtain ⟨m, rfl⟩ := Int.eq_ofNat_of_zero_le (show 0 ≤ n by omega)
    rw [clR_yes h, classL_length]; omega
end Go.Proofs.Ytbpaaoeefcebeab
