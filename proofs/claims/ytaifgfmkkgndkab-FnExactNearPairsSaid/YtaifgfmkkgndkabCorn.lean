/- The program's corners of a polygon of fractions, and crosses along diagonals. -/
import Derived.Test.YtaifgfmkkgndkabCatF
import Derived.Test.YtaifgfmkkgndkabPolI
import Derived.Deep.RegionHeld3
namespace Go.Proofs.Ytaifgfmkkgndkab
set_option linter.unusedVariables false
open Go.RowKit

/-- the fractions of a polygon at their corners -/
def crn (l : List (Int × Int)) : List (Int × Int) := (-1, 0) :: l.take (l.length - 1)
theorem crn_length {l : List (Int × Int)} (h : 1 ≤ l.length) : (crn l).length = l.length := by
  unfold crn
  rw [List.length_cons, List.length_take]
  omega
theorem crn_at {l : List (Int × Int)} {k : Nat} (h : k < l.length) (h1 : 1 ≤ l.length) : (crn l).getD k (0, 0) = ((-1, 0) :: l).getD k (0, 0) := by
  unfold crn
  cases k with
  | zero => rfl
  | succ k =>
    simp only [List.getD_cons_succ]
    simp only [List.getD_eq_getElem?_getD]
    rw [List.getElem?_take_of_lt (by omega)]

set_option maxRecDepth 100000 in
set_option maxHeartbeats 1600000 in
theorem impl_cornersOf (A : Option Addr) (c B : Nat) (l : List (Int × Int)) (w : World) (h : SlD w B A l) (hB : B ≤ w.heap.size) (h3 : 3 ≤ l.length) (h12 : l.length ≤ 12) (hlc : l.length ≤ c) :
    Calls Try.prog 66 #[.slice A l.length c] w (GivF w (crn l)) := by
  have hSl : SlFF ((w.alloc (.cells #[.int .i64 (-1), .int .i64 0] 32)).alloc (.cells #[.slice (some ⟨w.heap.size, 0, none⟩) 1 1, .slice A (l.length - 1) c] 22)) (w.heap.size + 2) (some ⟨w.heap.size + 1, 0, none⟩) [[(-1, 0)], l.take (l.length - 1)] := by
    intro _
    refine ⟨w.heap.size + 1, 0, rfl, by omega, fun j hj => ?_⟩
    have hb := below_two w (.cells #[.int .i64 (-1), .int .i64 0] 32) (.cells #[.slice (some ⟨w.heap.size, 0, none⟩) 1 1, .slice A (l.length - 1) c] 22)
    match j, hj with
    | 0, _ =>
      refine ⟨some ⟨w.heap.size, 0, none⟩, 1, by simp [go_sem, rowF], ?_⟩
      exact SlD.one (by simp [go_sem]) (by simp [go_sem]) (by omega)
    | 1, _ =>
      refine ⟨A, c, ?_, ?_⟩
      · have e : (rowF [[(-1, 0)], l.take (l.length - 1)] 1).length = l.length - 1 := by simp [rowF]
        rw [e]
        simp [go_sem]
      · exact ((h.below (hb.mono hB)).take _).mono (by omega)
  have hrow : ∀ j, j < 2 → 1 ≤ (rowF [[((-1 : Int), (0 : Int))], l.take (l.length - 1)] j).length ∧ (rowF [[((-1 : Int), (0 : Int))], l.take (l.length - 1)] j).length ≤ 12 := by
    intro j hj
    match j, hj with
    | 0, _ => simp [rowF]
    | 1, _ => simp [rowF] <;> omega
  have hcat : catLF [[((-1 : Int), (0 : Int))], l.take (l.length - 1)] 2 = crn l := by simp [catLF, crn]
  have HS := Lib.hid hSl
  have Hrow := Lib.hid hrow
  have Hcat := Lib.hid hcat
  have Hb2 := Lib.hid (below_two w (.cells #[.int .i64 (-1), .int .i64 0] 32) (.cells #[.slice (some ⟨w.heap.size, 0, none⟩) 1 1, .slice A (l.length - 1) c] 22))
  have j0 : (0 : Int) ≤ (l.length : Int) - 1 := by omega
  have j1 : (l.length : Int) - 1 ≤ (c : Int) := by omega
  have j3 : ((l.length : Int) - 1).toNat = l.length - 1 := by omega
  have j4 : IntKind.i64.wrap ((l.length : Int) - 1) = (l.length : Int) - 1 := IntWalk.i64_in _ (by omega)
  have j5 : (1 : Int) ≤ (l.length : Int) := by omega
  clear hSl hrow hcat h
  go_enter Try.func66, Try.ntmps66
  go_wp2_with fail
  refine (slices_ConcatF (some ⟨w.heap.size + 1, 0, none⟩) 2 (w.heap.size + 2) 2 [[(-1, 0)], l.take (l.length - 1)] _ rfl HS.out (by simp) (by omega) (by omega) Hrow.out).mono ?_
  rintro e w2 ⟨A2, c2, rfl, ho, hb⟩
  rw [Hcat.out] at ho ⊢
  have HE := Lib.hid (show GivF w (crn l) (.returned (.slice A2 (crn l).length c2)) w2 from ⟨A2, c2, rfl, ho.mono (by simp <;> omega), below_kept Hb2.out (Nat.le_refl _) hb⟩)
  clear ho hb HS Hrow Hcat Hb2
  generalize (crn l).length = z at *
  go_wp2
  go_ret
  exact HE.out

set_option maxRecDepth 100000 in
set_option maxHeartbeats 1600000 in
theorem impl_crossAlong (A : Option Addr) (c B n lo hi : Nat) (C : List (Int × Int)) (w : World) (hn : C.length = n) (h : SlD w B A C) (hB : B ≤ w.heap.size) (h12 : n ≤ 12) (hlo : lo < n) (hhi : hi < n)
    (hs : ∀ k, k < n → Sm (C.getD k (0, 0)).1 ∧ Sm (C.getD k (0, 0)).2) :
    Calls Try.prog 67 #[.agg #[.int .i64 lo, .int .i64 hi], .slice A n c] w fun e w' => e = .returned (.int .i64 (crs (C.getD lo (0, 0)) (C.getD hi (0, 0)))) ∧ Below w.heap.size w w' := by
  obtain ⟨b, off, rfl, hbB, hc⟩ := h (by omega)
  obtain ⟨p0, p1⟩ := hc lo (by omega)
  obtain ⟨q0, q1⟩ := hc hi (by omega)
  have HC := Lib.hid (fun w => impl_crossF (C.getD lo (0, 0)).1 (C.getD lo (0, 0)).2 (C.getD hi (0, 0)).1 (C.getD hi (0, 0)).2 w (hs lo hlo).1 (hs lo hlo).2 (hs hi hhi).1 (hs hi hhi).2)
  have hbw : b < w.heap.size := by omega
  have i0 : (lo : Int) < (n : Int) := by omega
  have i1 : (hi : Int) < (n : Int) := by omega
  have i2 : (0 : Int) ≤ (lo : Int) := by omega
  have i3 : (0 : Int) ≤ (hi : Int) := by omega
  clear hc h hs hn
  generalize crs (C.getD lo (0, 0)) (C.getD hi (0, 0)) = z at *
  generalize (C.getD lo (0, 0)).1 = x at *
  generalize (C.getD lo (0, 0)).2 = y at *
  generalize (C.getD hi (0, 0)).1 = u at *
  generalize (C.getD hi (0, 0)).2 = v at *
  go_enter Try.func67, Try.ntmps67
  go_wp2_with fail
  go_region_held3 (fun w' => w'.cell? ⟨w.heap.size, 0, none⟩ = some (.int .i64 lo) ∧ w'.cell? ⟨w.heap.size, 1, none⟩ = some (.int .i64 hi) ∧ w'.cell? ⟨b, off + lo * 2, none⟩ = some (.int .i64 x) ∧ w'.cell? ⟨b, off + lo * 2 + 1, none⟩ = some (.int .i64 y) ∧ w'.cell? ⟨b, off + hi * 2, none⟩ = some (.int .i64 u) ∧ w'.cell? ⟨b, off + hi * 2 + 1, none⟩ = some (.int .i64 v) ∧ Below w.heap.size w w')
    (first
      | with_reducible exact keptB6 (by assumption) hb1 (Nat.le_refl _)
      | exact ⟨by simp [go_sem], by simp [go_sem], by simp [go_sem, hbw, p0], by simp [go_sem, hbw, p1], by simp [go_sem, hbw, q0], by simp [go_sem, hbw, q1], (below_one w _).drew⟩)
    (first
      | (go_at_call 53; refine (HC.out _).mono ?_; rintro e w1 ⟨rfl, hb1⟩))
  rename_i hS
  have hd := Lib.hid hS.2.2.2.2.2.2
  clear hS hb1 p0 p1 q0 q1 hbw HC
  go_wp2
  go_ret
  exact ⟨rfl, hd.out⟩
end Go.Proofs.Ytaifgfmkkgndkab
