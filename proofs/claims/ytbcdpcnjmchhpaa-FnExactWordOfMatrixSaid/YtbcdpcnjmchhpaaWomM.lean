/- The word of a matrix: mathematics. -/
import Derived.Test.YtbcdpcnjmchhpaaMatM
namespace Go.Proofs.Ytbcdpcnjmchhpaa
set_option linter.unusedVariables false

/-- the second row is not less than the first: the letter l -/
def M4.lowB (m : M4) : Bool := decide (m.a ≤ m.c ∧ m.b ≤ m.d)
theorem M4.lowB_iff {m : M4} : m.lowB = true ↔ m.a ≤ m.c ∧ m.b ≤ m.d := by unfold M4.lowB; simp
def M4.rest (m : M4) : M4 := if m.lowB = true then ⟨m.a, m.b, m.c - m.a, m.d - m.b⟩ else ⟨m.a - m.c, m.b - m.d, m.c, m.d⟩
def M4.letter (m : M4) : UInt8 := if m.lowB = true then 108 else 114
/-- the letters read off, behind L; no word if f are not enough -/
def wds : Nat → M4 → List UInt8 → List UInt8 × Bool
  | 0, m, L => if m.eqB M4.one = true then (L, true) else ([], false)
  | f + 1, m, L => if m.eqB M4.one = true then (L, true) else wds f m.rest (L ++ [m.letter])
theorem wds_done {f : Nat} {m : M4} {L : List UInt8} (h : m.eqB M4.one = true) : wds f m L = (L, true) := by
  cases f <;> simp [wds, h]
theorem wds_out {m : M4} {L : List UInt8} (h : m.eqB M4.one = false) : wds 0 m L = ([], false) := by simp [wds, h]
theorem wds_next {f : Nat} {m : M4} {L : List UInt8} (h : m.eqB M4.one = false) : wds (f + 1) m L = wds f m.rest (L ++ [m.letter]) := by simp [wds, h]

/-- a matrix of numbers of at least 0 -/
structure Nn (m : M4) : Prop where
  a0 : 0 ≤ m.a
  b0 : 0 ≤ m.b
  c0 : 0 ≤ m.c
  d0 : 0 ≤ m.d
  a9 : m.a ≤ 1000000000
  b9 : m.b ≤ 1000000000
  c9 : m.c ≤ 1000000000
  d9 : m.d ≤ 1000000000
  det : m.a * m.d - m.b * m.c = 1
theorem nn_high {m : M4} (h : Nn m) (hl : m.lowB = false) (h1 : m.eqB M4.one = false) : m.c ≤ m.a ∧ m.d ≤ m.b := by
  obtain ⟨a, b, c, d⟩ := m
  obtain ⟨h0, h2, h3, h4, _, _, _, _, hd⟩ := h
  have hn : ¬(a ≤ c ∧ b ≤ d) := fun e => by
    have := M4.lowB_iff (m := ⟨a, b, c, d⟩).2 e
    rw [hl] at this
    cases this
  have hne : ¬(a = 1 ∧ b = 0 ∧ c = 0 ∧ d = 1) := fun e => by
    have : M4.eqB ⟨a, b, c, d⟩ M4.one = true := M4.eqB_iff.2 (M4.same e.1 e.2.1 e.2.2.1 e.2.2.2)
    rw [h1] at this
    cases this
  dsimp only at *
  by_cases hac : c ≤ a
  · by_cases hbd : d ≤ b
    · exact ⟨hac, hbd⟩
    · exfalso
      by_cases hlt : c < a
      · have e : (c + 1) * (b + 1) ≤ a * d := Int.mul_le_mul (by omega) (by omega) (by omega) (by omega)
        have e2 : (c + 1) * (b + 1) = b * c + b + c + 1 := by rw [Int.add_mul, Int.mul_add, Int.mul_comm c b]; omega
        have hb : b = 0 := by omega
        have hc : c = 0 := by omega
        subst hb
        subst hc
        simp at hd
        have ha1 : 1 ≤ a := by omega
        have hd1 : 1 ≤ d := by omega
        have e3 : a * 1 ≤ a * d := Int.mul_le_mul_of_nonneg_left hd1 h0
        have e4 : 1 * d ≤ a * d := Int.mul_le_mul_of_nonneg_right ha1 h4
        exact hne ⟨by omega, rfl, rfl, by omega⟩
      · exact hn ⟨by omega, by omega⟩
  · exfalso
    have hbd : ¬b ≤ d := fun e => hn ⟨by omega, e⟩
    have e : (a + 1) * (d + 1) ≤ c * b := Int.mul_le_mul (by omega) (by omega) (by omega) (by omega)
    have e2 : (a + 1) * (d + 1) = a * d + a + d + 1 := by rw [Int.add_mul, Int.mul_add]; omega
    have e3 : c * b = b * c := Int.mul_comm c b
    omega
theorem nn_low {m : M4} (h : Nn m) (hl : m.lowB = true) : ¬(m.c ≤ m.a ∧ m.d ≤ m.b) := fun ⟨h1, h2⟩ => by
  obtain ⟨h3, h4⟩ := M4.lowB_iff.1 hl
  have e1 : m.a = m.c := by omega
  have e2 : m.b = m.d := by omega
  have hd := h.det
  rw [e1, e2, Int.mul_comm m.c m.d, Int.sub_self] at hd
  cases hd
theorem nn_rest {m : M4} (h : Nn m) (h1 : m.eqB M4.one = false) : Nn m.rest := by
  cases hl : m.lowB
  · obtain ⟨h2, h3⟩ := nn_high h hl h1
    obtain ⟨a0, b0, c0, d0, a9, b9, c9, d9, hd⟩ := h
    unfold M4.rest
    rw [hl]
    refine ⟨?_, ?_, c0, d0, ?_, ?_, c9, d9, ?_⟩
    all_goals simp only [Bool.false_eq_true, if_false]
    · omega
    · omega
    · omega
    · omega
    · rw [Int.sub_mul, Int.sub_mul, Int.mul_comm m.d m.c]
      omega
  · obtain ⟨h2, h3⟩ := M4.lowB_iff.1 hl
    obtain ⟨a0, b0, c0, d0, a9, b9, c9, d9, hd⟩ := h
    unfold M4.rest
    rw [hl]
    refine ⟨a0, b0, ?_, ?_, a9, b9, ?_, ?_, ?_⟩
    all_goals simp only [if_true]
    · omega
    · omega
    · omega
    · omega
    · rw [Int.mul_sub, Int.mul_sub, Int.mul_comm m.b m.a]
      omega
theorem nn_of {a b c d : Int} (h : mxB a b c d = true) (h0 : 0 ≤ a ∧ 0 ≤ b ∧ 0 ≤ c ∧ 0 ≤ d) : Nn ⟨a, b, c, d⟩ := by
  obtain ⟨⟨h1, h2, h3, h4⟩, h5⟩ := mxB_iff.1 h
  exact ⟨h0.1, h0.2.1, h0.2.2.1, h0.2.2.2, h1.2, h2.2, h3.2, h4.2, h5⟩
/-- the answer -/
def womB (a b c d : Int) : Bool := mxB a b c d && decide (0 ≤ a ∧ 0 ≤ b ∧ 0 ≤ c ∧ 0 ≤ d)
def womR (a b c d : Int) : List UInt8 × Bool := if womB a b c d = true then wds 40 ⟨a, b, c, d⟩ [] else ([], false)
theorem womR_no {a b c d : Int} (h : womB a b c d = false) : womR a b c d = ([], false) := by unfold womR; rw [h]; rfl
theorem womR_yes {a b c d : Int} (h : womB a b c d = true) : womR a b c d = wds 40 ⟨a, b, c, d⟩ [] := by unfold womR; rw [h]; rfl
def bsL (L : List UInt8) : ByteArray := ⟨L.toArray⟩
theorem bsL_nil : bsL [] = ⟨#[]⟩ := rfl
theorem bsL_snoc (L : List UInt8) (x : UInt8) : bsL (L ++ [x]) = bsL L ++ ⟨#[x]⟩ := by
  apply ByteArray.ext
  simp [bsL]
theorem bsL_size (L : List UInt8) : (bsL L).size = L.length := by simp [bsL, ByteArray.size]
end Go.Proofs.Ytbcdpcnjmchhpaa
