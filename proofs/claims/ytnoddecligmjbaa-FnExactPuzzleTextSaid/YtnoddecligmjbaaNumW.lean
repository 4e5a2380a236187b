/- Numbers in digits: the model's own. -/
import Derived.Test.YtnoddecligmjbaaTxt
import Derived.Test.YtnoddecligmjbaaNbB
import Derived.Lib.ItoaNum
import Derived.BigRegion
import Derived.RegionTactic
import Derived.IntWalk
import Derived.Deep.DeepCutAuto
namespace Go.Proofs.Ytnoddecligmjbaa
set_option linter.unusedVariables false
open Go.RowKit

theorem bsL_app (L R : List UInt8) : bsL (L ++ R) = bsL L ++ bsL R := by
  apply ByteArray.ext
  simp [bsL]
theorem dig_small {n : Nat} (h : n < 10) : Lib.decDigits n = [UInt8.ofNat (48 + n)] := by rw [Lib.decDigits, dif_pos h]
theorem dig_big {n : Nat} (h : ¬ n < 10) : Lib.decDigits n = Lib.decDigits (n / 10) ++ [UInt8.ofNat (48 + n % 10)] := by rw [Lib.decDigits, dif_neg h]
theorem dig_val {d : Nat} (h : d < 10) : ((UInt8.ofNat (48 + d)).toNat : Int) = 48 + (d : Int) := by
  rw [UInt8.toNat_ofNat_of_lt' (by simp [UInt8.size]; omega)]
  omega
/-- one byte in a block is made a text -/
theorem run_byte {w : World} {g d : Nat} (hd : d < 10) (h : w.cell? ⟨g, 0, none⟩ = some (.int .u8 (48 + (d : Int)))) : (convert 50 9 (.slice (some ⟨g, 0, none⟩) 1 1)).run Try.prog w = .ok (.string (bsL [UInt8.ofNat (48 + d)])) w :=
  run_convert_bytes_back w _ _ 5 ⟨g, 0, none⟩ 1 [UInt8.ofNat (48 + d)] Try.underlying50 (by kernel_rfl) (by kernel_rfl) (fun j hj => by
    match j, hj with
    | 0, _ =>
      rw [Addr.add_zero', h, ← dig_val hd]
      rfl)
theorem dig_len (n : Nat) : (Lib.decDigits n).length ≤ n + 1 := by
  induction n using Nat.strongRecOn with
  | _ n ih =>
    by_cases h : n < 10
    · rw [dig_small h]; simp
    · rw [dig_big h, List.length_append]
      have := ih (n / 10) (by omega)
      simp
      omega
theorem bel_first {w w1 : World} (hb : Below w.drew.heap.size w.drew w1) (o : Obj) : Below w.heap.size w (w1.alloc o) :=
  ((Below.refl w.heap.size w).drew.trans hb).alloc hb.size o
theorem bel_then {w w1 : World} {o : Obj} (hb : Below (w.alloc o).drew.heap.size (w.alloc o).drew w1) : Below w.heap.size w w1 :=
  (below_one w o).drew.trans (hb.mono (by simp))
theorem byte_after {w w1 : World} {v : Value} {t : TypeId} (hb : Below (w.alloc (.cells #[v] t)).drew.heap.size (w.alloc (.cells #[v] t)).drew w1) : w1.cell? ⟨w.heap.size, 0, none⟩ = some v :=
  (hb.cell (p := ⟨w.heap.size, 0, none⟩) (by simp)).trans (by simp [go_sem])
set_option maxRecDepth 100000 in
set_option maxHeartbeats 1600000 in
theorem spec_l1Num : ∀ (n : Nat) (w : World), n ≤ 1000000000 → Calls Try.prog 115 #[.int .i64 n] w fun e w' => e = .returned (.string (bsL (Lib.decDigits n))) ∧ Below w.heap.size w w' := by
  intro n
  induction n using Nat.strongRecOn with
  | _ n ih =>
    intro w hn
    by_cases h : n < 10
    · have h1 : (n : Int) < 10 := by omega
      have hw8 : IntKind.u8.wrap (48 + (n : Int)) = 48 + (n : Int) := by unfold IntKind.wrap; simp [IntKind.bits, IntKind.signed]; omega
      have hcv := run_byte (w := w.alloc (.cells #[.int .u8 (48 + (n : Int))] 5)) (g := w.heap.size) h (by simp [go_sem])
      have HE := Lib.hid (dig_small h)
      generalize UInt8.ofNat (48 + n) = y at *
      have HB := Lib.hid (below_one w (.cells #[.int .u8 (48 + (n : Int))] 5))
      clear ih
      go_enter Try.func115, Try.ntmps115
      go_wp2
      go_ret
      exact ⟨by rw [HE.out]; rfl, HB.out⟩
    · have h1 : ¬ (n : Int) < 10 := by omega
      have IH := Lib.hid (fun w => ih (n / 10) (by omega) w (by omega))
      have hq : (n : Int).tdiv 10 = ((n / 10 : Nat) : Int) := by rw [Int.tdiv_eq_ediv_of_nonneg (by omega)]; omega
      have hr : (n : Int).tmod 10 = ((n % 10 : Nat) : Int) := by rw [Int.tmod_eq_emod_of_nonneg (by omega)]; omega
      have hw8 : IntKind.u8.wrap (48 + ((n % 10 : Nat) : Int)) = 48 + ((n % 10 : Nat) : Int) := by unfold IntKind.wrap; simp [IntKind.bits, IntKind.signed]; omega
      have HD := Lib.hid (dig_big h)
      have hd9 : n % 10 < 10 := by omega
      clear ih
      have hwq : IntKind.i64.wrap ((n / 10 : Nat) : Int) = ((n / 10 : Nat) : Int) := IntWalk.i64_in _ (by omega)
      have hwr : IntKind.i64.wrap ((n % 10 : Nat) : Int) = ((n % 10 : Nat) : Int) := IntWalk.i64_in _ (by omega)
      have hw48 : IntKind.i64.wrap (48 + ((n % 10 : Nat) : Int)) = 48 + ((n % 10 : Nat) : Int) := IntWalk.i64_in _ (by omega)
      have hml := dig_len (n / 10)
      have hmn : n / 10 ≤ 1000000000 := by omega
      have hcv3 := run_byte (w := (w.alloc (.cells #[.int .u8 (48 + ((n % 10 : Nat) : Int))] 5)).drew) (g := w.heap.size) hd9 (by simp [go_sem])
      have hcv := fun w' hc => run_byte (w := w') (g := w.heap.size) hd9 hc
      have hcv2 := fun (w1 : World) => run_byte (w := w1.alloc (.cells #[.int .u8 (48 + ((n % 10 : Nat) : Int))] 5)) (g := w1.heap.size) hd9 (by simp [go_sem])
      generalize UInt8.ofNat (48 + n % 10) = y at *
      generalize n % 10 = d at *
      generalize n / 10 = m at *
      generalize Lib.decDigits n = D at *
      generalize Lib.decDigits m = M at *
      go_enter Try.func115, Try.ntmps115
      go_upto_region 3 with fail
      have hsM := bsL_size M
      have hsy : (bsL [y]).size = 1 := bsL_size [y]
      have hsN : ¬ 9223372036854775807 < (bsL M).size + (bsL [y]).size := by omega
      have hsN2 : ¬ (bsL M).size + (bsL [y]).size > 9223372036854775807 := hsN
      clear hml hmn
      have Hcv := Lib.hid hcv
      have Hcv2 := Lib.hid hcv2
      clear hcv hcv2
      go_region_with (go_at_call 115; refine (IH.out _).mono ?_; rintro e1 w1 ⟨rfl, hb1⟩; (first
        | (have hk := Hcv.out w1 (byte_after hb1))
        | have hk := Hcv2.out w1))
      all_goals (
        first
          | (have HF := Lib.hid (bel_first hb1 (.cells #[.int .u8 (48 + (d : Int))] 5)); clear hb1 hk hcv3; go_wp2; go_ret; exact ⟨by rw [HD.out, bsL_app]; rfl, HF.out⟩)
          | (have HF := Lib.hid (bel_then hb1); clear hb1 hk hcv3; go_wp2; go_ret; exact ⟨by rw [HD.out, bsL_app]; rfl, HF.out⟩))
end Go.Proofs.Ytnoddecligmjbaa
