/- Contracts of the laws' own helpers over slices of diagonals: copied, compared, marked, held. -/
import Derived.Test.YtaifgfmkkgndkaaLawI
namespace Go.Proofs.Ytaifgfmkkgndkaa
set_option linter.unusedVariables false
open Go.RowKit

theorem infoD : (Try.prog.info? 104).map (fun i => (i.zero, i.size, i.bytes)) = some (some (.agg #[.int .i64 0, .int .i64 0]), 2, 16) := by kernel_rfl

theorem laws_eqDiagonal (a b : Int) (w : World) :
    Calls Try.prog 104 #[.agg #[.int .i64 a, .int .i64 b], .agg #[.int .i64 a, .int .i64 b]] w fun e w' => e = .returned (.bool true) ∧ Below w.heap.size w w' := by
  go_enter Try.func104, Try.ntmps104
  go_wp2
  go_ret
  exact ⟨rfl, ((Below.refl _ _).alloc (Nat.le_refl _) _).alloc (by simp) _⟩

theorem laws_eqDiagonalS (A A' : Option Addr) (c c' B B' : Nat) (l : List (Int × Int)) (w : World) (h : SlD w B A l) (h' : SlD w B' A' l) (hB : B ≤ w.heap.size) (hB' : B' ≤ w.heap.size) (hl : l.length ≤ 1000000000) :
    Calls Try.prog 88 #[.slice A l.length c, .slice A' l.length c'] w fun e w' => e = .returned (.bool true) ∧ Below w.heap.size w w' := by
  go_enter Try.func88, Try.ntmps88
  go_wp2
  go_loopw [5] (fun i wr => ∃ k : Nat, k ≤ l.length ∧ i = .int .i64 k ∧ Below w.heap.size w wr) (fun i _ => l.length - (intOf i).toNat)
  case atStart => exact ⟨0, Nat.zero_le _, rfl, Below.refl _ _⟩
  case round =>
    obtain ⟨k, hk, rfl, hb⟩ := hrel
    by_cases hlt : k < l.length
    · have hA := h.below (hb.mono hB)
      have hA' := h'.below (hb.mono hB')
      obtain ⟨b, off, rfl, hbB, hc⟩ := hA (by omega)
      obtain ⟨b', off', rfl, hbB', hc'⟩ := hA' (by omega)
      obtain ⟨g0, g1⟩ := hc k hlt
      obtain ⟨g2, g3⟩ := hc' k hlt
      have i0 : (0 : Int) ≤ (k : Int) := by omega
      have i1 : (k : Int) < (l.length : Int) := by omega
      clear hc hc' h h' hA hA'
      generalize (l.getD k (0, 0)).1 = x at *
      generalize (l.getD k (0, 0)).2 = y at *
      go_wp2
      go_region_held3 (fun w' => w'.cell? ⟨b, off + k * 2, none⟩ = some (.int .i64 x) ∧ w'.cell? ⟨b, off + k * 2 + 1, none⟩ = some (.int .i64 y) ∧
          w'.cell? ⟨b', off' + k * 2, none⟩ = some (.int .i64 x) ∧ w'.cell? ⟨b', off' + k * 2 + 1, none⟩ = some (.int .i64 y) ∧ Below w.heap.size w w')
        (first
          | exact kept4 (by assumption) hb1 (Nat.le_refl _)
          | exact drew4 ⟨g0, g1, g2, g3, hb⟩)
        (first
          | (go_at_call 104; refine (laws_eqDiagonal _ _ _).mono ?_; rintro e w1 ⟨rfl, hb1⟩))
      rename_i hS
      obtain ⟨_, _, _, _, hd⟩ := hS
      clear hb1 hb
      go_wp2
      go_roundw
      case rel => exact ⟨k + 1, by omega, by go_num, hd⟩
      case measure => simp [intOf]; omega
    · go_wp2
      go_ret
      exact ⟨rfl, hb⟩

theorem dcs_zeros (n : Nat) : (madeCells (Value.agg #[.int .i64 0, .int .i64 0]).cells (n * 2)).toList = dcs (List.replicate n (0, 0)) := by
  have e : (madeCells (Value.agg #[.int .i64 0, .int .i64 0]).cells (n * 2)).toList = List.replicate (n * 2) (.int .i64 0) := by
    apply List.ext_getElem?
    intro j
    show (madeCells #[Value.int .i64 0, Value.int .i64 0] (n * 2)).toList[j]? = _
    by_cases hj : j < n * 2
    · have : j % 2 = 0 ∨ j % 2 = 1 := by omega
      rcases this with h | h <;> simp [madeCells, hj, h]
    · simp [madeCells, hj]
  rw [e]
  clear e
  induction n with
  | zero => rfl
  | succ n ih =>
    have h2 : List.replicate ((n + 1) * 2) (Value.int .i64 0) = Value.int .i64 0 :: Value.int .i64 0 :: List.replicate (n * 2) (Value.int .i64 0) := by
      rw [show (n + 1) * 2 = n * 2 + 1 + 1 by omega]; rfl
    rw [h2, ih]
    rfl

/-- a pair stored into a row of pairs -/
theorem stored2 {w : World} {base e g n cap : Nat} {l : List (Int × Int)} (h : w.ownsRow base e 2 (.slice (some ⟨g, 0, none⟩) n cap) n (dcs l)) (k : Nat) (hk : k < l.length) (x y : Int) :
    ((w.setCell ⟨g, k * 2, none⟩ (.int .i64 x)).setCell ⟨g, k * 2 + 1, none⟩ (.int .i64 y)).ownsRow base e 2 (.slice (some ⟨g, 0, none⟩) n cap) n (dcs (l.set k (x, y))) ∧
    w.grownBy ((w.setCell ⟨g, k * 2, none⟩ (.int .i64 x)).setCell ⟨g, k * 2 + 1, none⟩ (.int .i64 y)) (some g) := by
  obtain ⟨h1, h2⟩ := h.stored (k * 2) (.int .i64 x)
  rw [dcs_set0 l x k hk] at h1
  obtain ⟨h3, h4⟩ := h1.stored (k * 2 + 1) (.int .i64 y)
  rw [dcs_set1 _ y k (by simpa using hk)] at h3
  refine ⟨?_, h2.trans h4⟩
  simpa [hk] using h3


end Go.Proofs.Ytaifgfmkkgndkaa
