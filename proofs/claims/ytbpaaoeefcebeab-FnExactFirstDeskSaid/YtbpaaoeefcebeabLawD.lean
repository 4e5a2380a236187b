/- Contracts of the laws' own helpers over slices of diagonals: copied, compared, marked, held. -/
import Derived.Test.YtbpaaoeefcebeabLawI
namespace Go.Proofs.Ytbpaaoeefcebeab
set_option linter.unusedVariables false
open Go.RowKit

theorem infoD : (Try.prog.info? 65).map (fun i => (i.zero, i.size, i.bytes)) = some (some (.agg #[.int .i64 0, .int .i64 0]), 2, 16) := by kernel_rfl

theorem laws_eqDiagonal (a b : Int) (w : World) :
    Calls Try.prog 63 #[.agg #[.int .i64 a, .int .i64 b], .agg #[.int .i64 a, .int .i64 b]] w fun e w' => e = .returned (.bool true) ∧ Below w.heap.size w w' := by
  go_enter Try.func63, Try.ntmps63
  go_wp2
  go_ret
  exact ⟨rfl, ((Below.refl _ _).alloc (Nat.le_refl _) _).alloc (by simp) _⟩

theorem laws_eqDiagonalS (A A' : Option Addr) (c c' B B' : Nat) (l : List (Int × Int)) (w : World) (h : SlD w B A l) (h' : SlD w B' A' l) (hB : B ≤ w.heap.size) (hB' : B' ≤ w.heap.size) (hl : l.length ≤ 1000000000) :
    Calls Try.prog 19 #[.slice A l.length c, .slice A' l.length c'] w fun e w' => e = .returned (.bool true) ∧ Below w.heap.size w w' := by
  go_enter Try.func19, Try.ntmps19
  go_wp2
  go_loopw [5] (fun i wr => ∃ k : Nat, k ≤ l.length ∧ i = .int .i64 k ∧ Below w.heap.size w wr) (fun i _ => l.length - (intOf i).toNat)
  case atStart => exact ⟨0, Nat.zero_le _, rfl, Below.refl _ _⟩
  case round =>
    obtain ⟨k, hk, rfl, hb⟩ := hrel
    by_cases hlt : k < l.length
    · have hA := h.below (hb.mono hB)
      have hA' := h'.below (hb.mono hB')
      obtain ⟨b, off, rfl, hbB, hc⟩ := hA (by omega)
      obtain ⟨b', off', rfl, hbB', hc'⟩ := hA' (by omega)
      obtain ⟨g0, g1⟩ := hc k hlt
      obtain ⟨g2, g3⟩ := hc' k hlt
      have i0 : (0 : Int) ≤ (k : Int) := by omega
      have i1 : (k : Int) < (l.length : Int) := by omega
      clear hc hc' h h' hA hA'
      generalize (l.getD k (0, 0)).1 = x at *
      generalize (l.getD k (0, 0)).2 = y at *
      go_wp2
      go_region_held3 (fun w' => w'.cell? ⟨b, off + k * 2, none⟩ = some (.int .i64 x) ∧ w'.cell? ⟨b, off + k * 2 + 1, none⟩ = some (.int .i64 y) ∧
          w'.cell? ⟨b', off' + k * 2, none⟩ = some (.int .i64 x) ∧ w'.cell? ⟨b', off' + k * 2 + 1, none⟩ = some (.int .i64 y) ∧ Below w.heap.size w w')
        (first
          | exact kept4 (by assumption) hb1 (Nat.le_refl _)
          | exact drew4 ⟨g0, g1, g2, g3, hb⟩)
        (first
          | (go_at_call 63; refine (laws_eqDiagonal _ _ _).mono ?_; rintro e w1 ⟨rfl, hb1⟩))
      rename_i hS
      obtain ⟨_, _, _, _, hd⟩ := hS
      clear hb1 hb
      go_wp2
      go_roundw
      case rel => exact ⟨k + 1, by omega, by go_num, hd⟩
      case measure => simp [intOf]; omega
    · go_wp2
      go_ret
      exact ⟨rfl, hb⟩

def copyD (l : List (Int × Int)) (k : Nat) : List (Int × Int) := l.take k ++ List.replicate (l.length - k) (0, 0)
theorem copyD_length (l : List (Int × Int)) (k : Nat) (h : k ≤ l.length) : (copyD l k).length = l.length := by simp [copyD]; omega
theorem copyD_zero (l : List (Int × Int)) : copyD l 0 = List.replicate l.length (0, 0) := by simp [copyD]
theorem copyD_all (l : List (Int × Int)) : copyD l l.length = l := by simp [copyD]
theorem copyD_succ (l : List (Int × Int)) (k : Nat) (h : k < l.length) : (copyD l k).set k (l.getD k (0, 0)) = copyD l (k + 1) := by
  unfold copyD
  have hk : (l.take k).length = k := by simp; omega
  rw [List.set_append_right _ _ (by omega), hk, Nat.sub_self, show l.length - k = (l.length - (k + 1)) + 1 by omega, List.replicate_succ, List.set_cons_zero,
    List.take_succ_eq_append_getElem h, List.append_assoc]
  simp [h]
theorem dcs_zeros (n : Nat) : (madeCells (Value.agg #[.int .i64 0, .int .i64 0]).cells (n * 2)).toList = dcs (List.replicate n (0, 0)) := by
  have e : (madeCells (Value.agg #[.int .i64 0, .int .i64 0]).cells (n * 2)).toList = List.replicate (n * 2) (.int .i64 0) := by
    apply List.ext_getElem?
    intro j
    show (madeCells #[Value.int .i64 0, Value.int .i64 0] (n * 2)).toList[j]? = _
    by_cases hj : j < n * 2
    · have : j % 2 = 0 ∨ j % 2 = 1 := by omega
      rcases this with h | h <;> simp [madeCells, hj, h]
    · simp [madeCells, hj]
  rw [e]
  clear e
  induction n with
  | zero => rfl
  | succ n ih =>
    have h2 : List.replicate ((n + 1) * 2) (Value.int .i64 0) = Value.int .i64 0 :: Value.int .i64 0 :: List.replicate (n * 2) (Value.int .i64 0) := by
      rw [show (n + 1) * 2 = n * 2 + 1 + 1 by omega]; rfl
    rw [h2, ih]
    rfl

/-- a pair stored into a row of pairs -/
theorem stored2 {w : World} {base e g n cap : Nat} {l : List (Int × Int)} (h : w.ownsRow base e 2 (.slice (some ⟨g, 0, none⟩) n cap) n (dcs l)) (k : Nat) (hk : k < l.length) (x y : Int) :
    ((w.setCell ⟨g, k * 2, none⟩ (.int .i64 x)).setCell ⟨g, k * 2 + 1, none⟩ (.int .i64 y)).ownsRow base e 2 (.slice (some ⟨g, 0, none⟩) n cap) n (dcs (l.set k (x, y))) ∧
    w.grownBy ((w.setCell ⟨g, k * 2, none⟩ (.int .i64 x)).setCell ⟨g, k * 2 + 1, none⟩ (.int .i64 y)) (some g) := by
  obtain ⟨h1, h2⟩ := h.stored (k * 2) (.int .i64 x)
  rw [dcs_set0 l x k hk] at h1
  obtain ⟨h3, h4⟩ := h1.stored (k * 2 + 1) (.int .i64 y)
  rw [dcs_set1 _ y k (by simpa using hk)] at h3
  refine ⟨?_, h2.trans h4⟩
  simpa [hk] using h3

set_option maxHeartbeats 800000 in
theorem laws_toDiagonalS (A : Option Addr) (c B : Nat) (l : List (Int × Int)) (w : World) (h : SlD w B A l) (hB : B ≤ w.heap.size) (hl : l.length ≤ 1048576) :
    Calls Try.prog 17 #[.slice A l.length c] w fun e w' => e = .returned (.slice (some ⟨w.heap.size, 0, none⟩) l.length l.length) ∧
      w'.ownsRow w.heap.size 65 2 (.slice (some ⟨w.heap.size, 0, none⟩) l.length l.length) l.length (dcs l) ∧ Below w.heap.size w w' := by
  obtain ⟨i0, hi, hz0, hz1, hz2⟩ := info_parts infoD
  have hbytes : i0.bytes * l.length ≤ 281474976710656 := by rw [hz2]; omega
  have hmax : l.length ≤ maxLen := by unfold maxLen; omega
  go_enter Try.func17, Try.ntmps17
  go_wp2_with (at_make; refine wpList_make_full _ rfl _ _ _ rfl w.heap.size 65 i0 (.agg #[.int .i64 0, .int .i64 0]) 2 Try.underlying26 hi hz0 hz1 _ _ _ _ l.length rfl rfl rfl rfl hbytes hmax (Nat.le_refl _) ?_; intro w1 hown1 hgrow1)
  have hb1 : Below w.heap.size w w1 := (Below.refl _ _).grown hgrow1 (Nat.le_refl _) (by simp)
  rw [dcs_zeros, ← copyD_zero] at hown1
  clear hgrow1
  go_wp2
  go_loopw [4] (fun i wr => ∃ k : Nat, k ≤ l.length ∧ i = .int .i64 k ∧ wr.ownsRow w.heap.size 65 2 (.slice (some ⟨w.heap.size, 0, none⟩) l.length l.length) l.length (dcs (copyD l k)) ∧ Below w.heap.size w wr) (fun i _ => l.length - (intOf i).toNat)
  case atStart => exact ⟨0, Nat.zero_le _, rfl, hown1, hb1⟩
  case round =>
    obtain ⟨k, hk, rfl, ho, hb⟩ := hrel
    by_cases hlt : k < l.length
    · have hA := h.below (hb.mono hB)
      obtain ⟨b, off, rfl, hbB, hc⟩ := hA (by omega)
      obtain ⟨g0, g1⟩ := hc k hlt
      have i0 : (0 : Int) ≤ (k : Int) := by omega
      have i1 : (k : Int) < (l.length : Int) := by omega
      have hcs := copyD_succ l k hlt
      have hkl : k < (copyD l k).length := by rw [copyD_length l k hk]; exact hlt
      clear hc hown1 hb1 hA h
      generalize l.getD k (0, 0) = d at *
      obtain ⟨x, y⟩ := d
      dsimp only at g0 g1
      go_wp2_with fail
      refine (laws_toDiagonal x y _).mono ?_
      rintro e w2 ⟨rfl, hb2⟩
      have ho2 := own_kept ho hb2
      have hd2 := below_kept hb (Nat.le_refl _) hb2
      have c0 : w2.cell? ⟨w.heap.size, k * 2, none⟩ = some (.int .i64 ((copyD l k).getD k (0, 0)).1) := by rw [ho2.cellAt _ (by omega), dcs_get0 _ _ hkl]
      have c1 : w2.cell? ⟨w.heap.size, k * 2 + 1, none⟩ = some (.int .i64 ((copyD l k).getD k (0, 0)).2) := by rw [ho2.cellAt _ (by omega), dcs_get1 _ _ hkl]
      have f0 := ho2.frozenAt (k * 2)
      have f1 := ho2.frozenAt (k * 2 + 1)
      obtain ⟨hs1, hs2⟩ := stored2 ho2 k hkl x y
      rw [hcs] at hs1
      have hd3 := hd2.grown hs2 hd2.size (by simp)
      clear ho ho2 hb hb2 hs2 hcs hd2 g0 g1
      generalize ((copyD l k).getD k (0, 0)).1 = z0 at *
      generalize ((copyD l k).getD k (0, 0)).2 = z1 at *
      go_wp2
      go_roundw
      case rel => exact ⟨k + 1, by omega, by go_num, hs1, hd3⟩
      case measure => simp [intOf]; omega
    · obtain rfl : k = l.length := by omega
      rw [copyD_all] at ho
      go_wp2
      go_ret
      exact ⟨rfl, ho, hb⟩

end Go.Proofs.Ytbpaaoeefcebeab
