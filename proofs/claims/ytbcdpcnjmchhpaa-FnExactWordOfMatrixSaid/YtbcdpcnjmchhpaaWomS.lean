/- The model's WordOfMatrix. -/
import Derived.Test.YtbcdpcnjmchhpaaWomM
import Derived.Test.YtbcdpcnjmchhpaaMatL
import Derived.Test.YtbcdpcnjmchhpaaMatE
import Derived.Deep.QuietTactic
import Derived.BigQuiet
namespace Go.Proofs.Ytbcdpcnjmchhpaa
set_option linter.unusedVariables false
open Go.RowKit

def FzW (w : World) (g : Nat) : Prop := w.frozen? ⟨g, 0, none⟩ = false ∧ w.frozen? ⟨g, 1, none⟩ = false ∧ w.frozen? ⟨g, 2, none⟩ = false ∧ w.frozen? ⟨g, 3, none⟩ = false
theorem FzW.new (w : World) (t : TypeId) (a b c d : Int) : FzW (w.alloc (.cells #[.int .i64 a, .int .i64 b, .int .i64 c, .int .i64 d] t)) w.heap.size := by
  unfold FzW
  simp [go_sem]
theorem FzW.kept {w w' : World} {g : Nat} (h : FzW w g) (hg : g < w.heap.size) (hb : Below w.heap.size w w') : FzW w' g :=
  ⟨(hb.frozen (p := ⟨g, 0, none⟩) hg).trans h.1, (hb.frozen (p := ⟨g, 1, none⟩) hg).trans h.2.1, (hb.frozen (p := ⟨g, 2, none⟩) hg).trans h.2.2.1, (hb.frozen (p := ⟨g, 3, none⟩) hg).trans h.2.2.2⟩
theorem below_set2 {B g : Nat} {w0 w : World} (i j : Nat) (x0 x1 : Value) (h : Below B w0 w) (hg : B ≤ g) : Below B w0 ((w.setCell ⟨g, i, none⟩ x0).setCell ⟨g, j, none⟩ x1) :=
  (h.setCell (p := ⟨g, i, none⟩) hg _).setCell (p := ⟨g, j, none⟩) hg _
def WomE (R : List UInt8 × Bool) (w : World) (e : Ending) (w' : World) : Prop := e = .returned (.tuple #[.string (bsL R.1), .bool R.2]) ∧ Below w.heap.size w w'
theorem womE_no {R : List UInt8 × Bool} {w w' : World} (h : R = ([], false)) (hb : Below w.heap.size w w') : WomE R w (.returned (.tuple #[.string ⟨#[]⟩, .bool false])) w' := by
  subst h
  exact ⟨rfl, hb⟩

theorem spec_WordOfMatrix_no (a b c d : Int) (w : World) (h : womB a b c d = false) : Calls Try.prog 46 #[.agg #[.int .i64 a, .int .i64 b, .int .i64 c, .int .i64 d]] w (WomE (womR a b c d) w) := by
  have hR := womR_no h
  have hc := spec_mxGood a b c d
  have HR := Lib.hid hR
  clear hR
  go_enter Try.func46, Try.ntmps46
  go_wp2_with fail
  refine (hc _).mono ?_
  rintro e w1 ⟨rfl, hb1⟩
  have A := (Bx.new w 60 a b c d).kept hb1
  have hd := ((Below.refl w.heap.size w).alloc (Nat.le_refl _) _).trans (hb1.mono (by simp))
  have HE := Lib.hid (womE_no HR.out hd)
  clear hb1 hd hc
  obtain ⟨a0, a1, a2, a3⟩ := A
  unfold womB at h
  cases hm : mxB a b c d
  · clear h
    go_wp2
    go_ret2
    exact HE.out
  · rw [hm, Bool.true_and] at h
    have h' : ¬(0 ≤ a ∧ 0 ≤ b ∧ 0 ≤ c ∧ 0 ≤ d) := by simpa using h
    clear h
    by_cases ha : a < 0
    · clear h'
      go_wp2
      go_ret2
      exact HE.out
    · by_cases hbb : b < 0
      · clear h'
        go_wp2
        go_ret2
        exact HE.out
      · by_cases hcc : c < 0
        · clear h'
          go_wp2
          go_ret2
          exact HE.out
        · have hdd : d < 0 := by omega
          clear h'
          go_wp2
          go_ret2
          exact HE.out

set_option maxRecDepth 100000 in
set_option maxHeartbeats 3200000 in
theorem spec_WordOfMatrix_yes (a b c d : Int) (w : World) (h : womB a b c d = true) : Calls Try.prog 46 #[.agg #[.int .i64 a, .int .i64 b, .int .i64 c, .int .i64 d]] w (WomE (womR a b c d) w) := by
  have hR := womR_yes h
  unfold womB at h
  rw [Bool.and_eq_true, decide_eq_true_eq] at h
  obtain ⟨hm, h0, h1, h2, h3⟩ := h
  have hn := nn_of hm ⟨h0, h1, h2, h3⟩
  have hc := spec_mxGood a b c d
  rw [hm] at hc
  obtain ⟨R, hRR⟩ : ∃ R, womR a b c d = R := ⟨_, rfl⟩
  rw [hRR] at hR ⊢
  have HR := Lib.hid hR
  have Hn := Lib.hid hn
  have i0 : ¬a < 0 := by omega
  have i1 : ¬b < 0 := by omega
  have i2 : ¬c < 0 := by omega
  have i3 : ¬d < 0 := by omega
  have Hc := Lib.hid hc
  clear hR hn hm h0 h1 h2 h3 hRR hc
  go_enter Try.func46, Try.ntmps46
  go_wp2_with fail
  refine (Hc.out _).mono ?_
  rintro e w1 ⟨rfl, hb1⟩
  have A := (Bx.new w 60 a b c d).kept hb1
  have F := (FzW.new w 60 a b c d).kept (by simp) hb1
  have hd := ((Below.refl w.heap.size w).alloc (Nat.le_refl _) (.cells #[.int .i64 a, .int .i64 b, .int .i64 c, .int .i64 d] 60)).trans (hb1.mono (by simp))
  have HA := Lib.hid A
  have HF := Lib.hid F
  have Hd := Lib.hid hd
  clear hb1 hd F Hc
  obtain ⟨a0, a1, a2, a3⟩ := A
  go_wp2
  clear a0 a1 a2 a3
  go_loopw [4] (fun s wr => ∃ (m : M4) (L : List UInt8), s = .string (bsL L) ∧ L.length ≤ 40 ∧ Nn m ∧ Bx wr w.heap.size m.a m.b m.c m.d ∧ FzW wr w.heap.size ∧ Below w.heap.size w wr ∧ wds (40 - L.length) m L = R) (fun s _ => 40 - (match s with | .string x => x.size | _ => 0))
  case atStart => exact ⟨⟨a, b, c, d⟩, [], rfl, by simp, Hn.out, HA.out, HF.out, Hd.out, HR.out.symm⟩
  case round =>
    clear HA HF Hd HR Hn i0 i1 i2 i3
    obtain ⟨m, L, rfl, hL, hn, hbx, hfz, hb, hR⟩ := hrel
    have Hb := Lib.hid hb
    have Hn := Lib.hid hn
    have HR := Lib.hid hR
    have Hbx := Lib.hid hbx
    have Hfz := Lib.hid hfz
    have hrun := run_mx_eq m.a m.b m.c m.d 1 0 0 1
    have he : M4.eqB ⟨m.a, m.b, m.c, m.d⟩ ⟨1, 0, 0, 1⟩ = m.eqB M4.one := rfl
    rw [he] at hrun
    clear hb hn hR he hfz
    obtain ⟨q0, q1, q2, q3⟩ := hbx
    have hy := Hbx.out.lt
    have hkeep : ∀ w', Below wr.heap.size wr w' → w'.cell? ⟨w.heap.size, 0, none⟩ = some (.int .i64 m.a) ∧ w'.cell? ⟨w.heap.size, 1, none⟩ = some (.int .i64 m.b) ∧ w'.cell? ⟨w.heap.size, 2, none⟩ = some (.int .i64 m.c) ∧ w'.cell? ⟨w.heap.size, 3, none⟩ = some (.int .i64 m.d) ∧ Below wr.heap.size wr w' := fun w' hw => ⟨cell_kept hw q0, cell_kept hw q1, cell_kept hw q2, cell_kept hw q3, hw⟩
    have Hkeep := Lib.hid hkeep
    have hone : ∀ w', (w'.cell? ⟨w.heap.size, 0, none⟩ = some (.int .i64 m.a) ∧ w'.cell? ⟨w.heap.size, 1, none⟩ = some (.int .i64 m.b) ∧ w'.cell? ⟨w.heap.size, 2, none⟩ = some (.int .i64 m.c) ∧ w'.cell? ⟨w.heap.size, 3, none⟩ = some (.int .i64 m.d) ∧ Below wr.heap.size wr w') → Calls Try.prog 81 #[] w' fun e w'' => e = .returned (.agg #[.int .i64 1, .int .i64 0, .int .i64 0, .int .i64 1]) ∧ (w''.cell? ⟨w.heap.size, 0, none⟩ = some (.int .i64 m.a) ∧ w''.cell? ⟨w.heap.size, 1, none⟩ = some (.int .i64 m.b) ∧ w''.cell? ⟨w.heap.size, 2, none⟩ = some (.int .i64 m.c) ∧ w''.cell? ⟨w.heap.size, 3, none⟩ = some (.int .i64 m.d) ∧ Below wr.heap.size wr w'') := fun w' hw => by
      refine (spec_mxOne w').mono ?_
      rintro e w'' ⟨he, hb⟩
      exact ⟨he, hkeep _ (below_kept hw.2.2.2.2 (Nat.le_refl _) hb)⟩
    have Hone := Lib.hid hone
    clear hkeep hone
    go_wp2_with fail
    clear q0 q1 q2 q3
    go_region_held3 (fun w' => w'.cell? ⟨w.heap.size, 0, none⟩ = some (.int .i64 m.a) ∧ w'.cell? ⟨w.heap.size, 1, none⟩ = some (.int .i64 m.b) ∧ w'.cell? ⟨w.heap.size, 2, none⟩ = some (.int .i64 m.c) ∧ w'.cell? ⟨w.heap.size, 3, none⟩ = some (.int .i64 m.d) ∧ Below wr.heap.size wr w')
      (first | assumption | exact Hkeep.out _ (Below.refl _ _).drew)
      (first | (go_at_call 81; refine (Hone.out _ (by first | assumption | exact Hkeep.out _ (Below.refl _ _).drew)).mono ?_; rintro e w2 ⟨rfl, hS2⟩))
    rename_i hS
    obtain ⟨q0, q1, q2, q3, hb2⟩ := hS
    have HB2 := Lib.hid (below_kept Hb.out (Nat.le_refl _) hb2)
    obtain ⟨f0, f1, f2, f3⟩ := Hfz.out.kept hy hb2
    clear Hkeep Hone hb2 Hbx Hfz
    have hsz := bsL_size L
    cases h1 : m.eqB M4.one
    · rw [h1] at hrun
      by_cases h40 : L.length = 40
      · have hR := HR.out
        rw [h40, wds_out h1] at hR
        have HE := Lib.hid (womE_no hR.symm HB2.out)
        have h40' : (L.length : Int) = 40 := by omega
        clear hR h1
        go_wp2
        go_ret2
        exact HE.out
      · have h40' : ¬(L.length : Int) = 40 := by omega
        have hR := HR.out
        rw [show 40 - L.length = (40 - (L.length + 1)) + 1 by omega, wds_next h1] at hR
        have HR1 := Lib.hid hR
        have Hn1 := Lib.hid (nn_rest Hn.out h1)
        obtain ⟨a0, b0, c0, d0, a9, b9, c9, d9, _⟩ := Hn.out
        clear hR HR
        cases hl : m.lowB
        · have hh := nn_high Hn.out hl h1
          have hnl : ¬(m.a ≤ m.c ∧ m.b ≤ m.d) := fun e => by
            have := M4.lowB_iff.2 e
            rw [hl] at this
            cases this
          have er : m.rest = ⟨m.a - m.c, m.b - m.d, m.c, m.d⟩ := by unfold M4.rest; rw [hl]; rfl
          have el : m.letter = 114 := by unfold M4.letter; rw [hl]; rfl
          rw [er] at HR1 Hn1
          rw [el] at HR1
          clear er el hl h1 Hn
          obtain ⟨hh1, hh2⟩ := hh
          by_cases hac : m.a ≤ m.c
          · have hbd : ¬m.b ≤ m.d := fun e => hnl ⟨hac, e⟩
            clear hnl
            go_wp2
            go_roundw
            case rel => exact ⟨_, L ++ [114], by rw [bsL_snoc], by simp; omega, Hn1.out, by refine ⟨?_, ?_, ?_, ?_⟩ <;> simp [go_sem, q0, q1, q2, q3], by refine ⟨?_, ?_, ?_, ?_⟩ <;> simp [go_sem, f0, f1, f2, f3], below_set2 _ _ _ _ HB2.out (Nat.le_refl _), by simpa using HR1.out⟩
            case measure =>
              show 40 - (bsL L ++ ⟨#[114]⟩).size < 40 - (bsL L).size
              rw [← bsL_snoc, bsL_size, bsL_size]
              simp; omega
          · clear hnl
            go_wp2
            go_roundw
            case rel => exact ⟨_, L ++ [114], by rw [bsL_snoc], by simp; omega, Hn1.out, by refine ⟨?_, ?_, ?_, ?_⟩ <;> simp [go_sem, q0, q1, q2, q3], by refine ⟨?_, ?_, ?_, ?_⟩ <;> simp [go_sem, f0, f1, f2, f3], below_set2 _ _ _ _ HB2.out (Nat.le_refl _), by simpa using HR1.out⟩
            case measure =>
              show 40 - (bsL L ++ ⟨#[114]⟩).size < 40 - (bsL L).size
              rw [← bsL_snoc, bsL_size, bsL_size]
              simp; omega
        · obtain ⟨hac, hbd⟩ := M4.lowB_iff.1 hl
          have er : m.rest = ⟨m.a, m.b, m.c - m.a, m.d - m.b⟩ := by unfold M4.rest; rw [hl]; rfl
          have el : m.letter = 108 := by unfold M4.letter; rw [hl]; rfl
          rw [er] at HR1 Hn1
          rw [el] at HR1
          clear er el hl h1 Hn
          go_wp2
          go_roundw
          case rel => exact ⟨_, L ++ [108], by rw [bsL_snoc], by simp; omega, Hn1.out, by refine ⟨?_, ?_, ?_, ?_⟩ <;> simp [go_sem, q0, q1, q2, q3], by refine ⟨?_, ?_, ?_, ?_⟩ <;> simp [go_sem, f0, f1, f2, f3], below_set2 _ _ _ _ HB2.out (Nat.le_refl _), by simpa using HR1.out⟩
          case measure =>
            show 40 - (bsL L ++ ⟨#[108]⟩).size < 40 - (bsL L).size
            rw [← bsL_snoc, bsL_size, bsL_size]
            simp; omega
    · have hR := HR.out
      rw [wds_done h1] at hR
      have HE : Hid (WomE R w (.returned (.tuple #[.string (bsL L), .bool true])) w2) := Lib.hid (by rw [← hR]; exact ⟨rfl, HB2.out⟩)
      rw [h1] at hrun
      clear hR h1
      go_wp2
      go_ret2
      exact HE.out
end Go.Proofs.Ytbcdpcnjmchhpaa
