/- The model's fractions; the program's test of divisions by 0, least numbers. -/
import Derived.Test.YtkekjcfhkecggaaContI
import Derived.Test.YtkekjcfhkecggaaFracM
namespace Go.Proofs.Ytkekjcfhkecggaa
set_option linter.unusedVariables false
open Go.RowKit

/-- three results -/
def FrEnd (r : Int × Int × Bool) (w : World) (e : Ending) (w' : World) : Prop := e = .returned (.tuple #[.int .i64 r.1, .int .i64 r.2.1, .bool r.2.2]) ∧ Below w.heap.size w w'
theorem frEnd_mk {r : Int × Int × Bool} {a b : Int} {c : Bool} {w w' : World} (h : r = (a, b, c)) (hb : Below w.heap.size w w') : FrEnd r w (.returned (.tuple #[.int .i64 a, .int .i64 b, .bool c])) w' := by
  subst h
  exact ⟨rfl, hb⟩

set_option maxHeartbeats 1600000 in
theorem spec_ctFraction (A : Option Addr) (n c B : Nat) (l : List Int) (s : Int) (w : World) (hn : l.length = n) (hs : s = 1 ∨ s = -1) (h : SlI w B A l) (hsm : Small l) (h0 : 0 < n) (hl : n ≤ 10) :
    Calls Try.prog 51 #[.slice A n c, .int .i64 s] w (FrEnd (frR s l) w) := by
  subst hn
  have hsb : -1 ≤ s ∧ s ≤ 1 := by omega
  obtain ⟨sb0, sb1⟩ := hsb
  obtain ⟨b', off, rfl, hbB, hc⟩ := h h0
  obtain ⟨m, hm⟩ : ∃ m, l.length = m + 1 := ⟨l.length - 1, by omega⟩
  have gl := hc m (by omega)
  have hst : frac s (l.drop m) = some (l.getD m 0, 1) := by
    rw [drop_cons l m (by omega), List.drop_of_length_le (by omega)]
    rfl
  have HC := Lib.hid hc
  have Hs := Lib.hid hs
  have Hsm := Lib.hid hsm
  have Hst := Lib.hid hst
  have m1 : (l.length : Int) - 1 = (m : Int) := by omega
  have m2 : (l.length : Int) - 2 = (m : Int) - 1 := by omega
  have m3 : (0 : Int) ≤ (m : Int) := by omega
  have m4 : (m : Int) < (l.length : Int) := by omega
  have m5 : (m : Int) ≤ 9 := by omega
  have Hm := Lib.hid hm
  clear hs hsm h hc hst hm
  generalize l.getD m 0 = x0 at *
  go_enter Try.func51, Try.ntmps51
  go_wp2
  go_loop [7, 8, 9, 10] (fun a b i _ => ∃ (k : Nat) (n d : Int), k ≤ m ∧ i = .int .i64 ((k : Int) - 1) ∧ a = .int .i64 n ∧ b = .int .i64 d ∧ frac s (l.drop k) = some (n, d)) (fun _ _ i _ => (intOf i + 1).toNat)
  case atStart => exact ⟨m, x0, 1, Nat.le_refl _, rfl, rfl, rfl, Hst.out⟩
  case round =>
    clear Hst gl
    obtain ⟨k, n, d, hk, rfl, rfl, rfl, hf⟩ := hrel
    by_cases hlt : 0 < k
    · obtain ⟨j, rfl⟩ : ∃ j, k = j + 1 := ⟨k - 1, by omega⟩
      have g0 := HC.out j (by have := Hm.out; omega)
      obtain ⟨⟨n1, n2⟩, ⟨d1, d2⟩, ⟨p1, p2⟩, ⟨q1, q2⟩, hz, hneg, hpos⟩ := frac_round Hs.out l Hsm.out hl j (by have := Hm.out; omega) n d hf
      have j1 : ((j + 1 : Nat) : Int) - 1 = (j : Int) := by omega
      rw [j1]
      have j2 : (0 : Int) ≤ (j : Int) := by omega
      have j3 : (j : Int) < (l.length : Int) := by omega
      have Hz := Lib.hid hz
      have Hneg := Lib.hid hneg
      have Hpos := Lib.hid hpos
      generalize l.getD j 0 = x at *
      clear hz hneg hpos hf hlt j1
      by_cases hn0 : n = 0
      · have hE := frEnd_mk (w := w) (w' := w) (show frR s l = (0, 0, false) by unfold frR; rw [Hz.out hn0]) (Below.refl _ _)
        have HE := Lib.hid hE
        subst hn0
        clear hE
        go_wp2
        exact bodyPost_ret (v := .tuple #[.int .i64 0, .int .i64 0, .bool false]) (by simp [results, Try.results51, go_sem]) rfl HE.out
      · by_cases hneg : n < 0
        · go_wp2
          go_round
          case rel => exact ⟨j, _, _, by omega, rfl, rfl, rfl, Hneg.out hneg⟩
          case measure => simp [intOf]
        · go_wp2
          go_round
          case rel => exact ⟨j, _, _, by omega, rfl, rfl, rfl, Hpos.out (by omega)⟩
          case measure => simp [intOf]
    · obtain rfl : k = 0 := by omega
      have hE := frEnd_mk (w := w) (w' := w) (show frR s l = (n, d, true) by unfold frR; rw [List.drop_zero] at hf; rw [hf]) (Below.refl _ _)
      have HE := Lib.hid hE
      clear hE hf
      go_wp2
      exact bodyPost_ret (v := .tuple #[.int .i64 n, .int .i64 d, .bool true]) (by simp [results, Try.results51, go_sem]) rfl HE.out

set_option maxHeartbeats 800000 in
theorem impl_dividesByZero (A : Option Addr) (n c B : Nat) (l : List Int) (w : World) (hn : l.length = n) (h0 : 0 < n) (hl : n ≤ 10) (hlc : n ≤ c) (hB : B ≤ w.heap.size) (h : SlI w B A l) (hsm : Small l) :
    Calls Try.prog 52 #[.slice A n c] w fun e w' => e = .returned (.bool (divZ l)) ∧ Below w.heap.size w w' := by
  subst hn
  obtain ⟨b', off, rfl, hbB, hc⟩ := h h0
  have H := Lib.hid h
  have Hsm := Lib.hid hsm
  clear hc h hsm
  go_enter Try.func52, Try.ntmps52
  go_wp2
  go_loopw [3] (fun i wr => ∃ k : Nat, k + 1 ≤ l.length ∧ i = .int .i64 ((k : Int) + 1) ∧ divZ l = divZ (l.drop k) ∧ Below w.heap.size w wr) (fun i _ => l.length - (intOf i).toNat)
  case atStart => exact ⟨0, by omega, rfl, by rw [List.drop_zero], Below.refl _ _⟩
  case round =>
    obtain ⟨k, hk, rfl, hd, hb⟩ := hrel
    by_cases hlt : k + 1 < l.length
    · have hst := divZ_step l k hlt
      have hs := (H.out.below (hb.mono hB))
      have k1 : (0 : Int) ≤ (k : Int) + 1 := by omega
      have k2 : (k : Int) + 1 < (l.length : Int) := by omega
      have k3 : (k : Int) + 1 ≤ (l.length : Int) := by omega
      have k4 : (l.length : Int) ≤ (c : Int) := by omega
      have k5 : ((k : Int) + 1).toNat = k + 1 := by omega
      have k6 : ¬ c = k + 1 := by omega
      have hs2 : SlI wr B (some ⟨b', off + (k + 1), none⟩) (l.drop (k + 1)) := by
        have := SlI.cutIf (a0 := ⟨0, 0, none⟩) hs (k + 1) hlc
        rwa [if_neg k6] at this
      have hle : (l.drop (k + 1)).length = l.length - (k + 1) := by simp
      have Hle := Lib.hid hle
      have Hs2 := Lib.hid hs2
      have Hst := Lib.hid hst
      have Hd := Lib.hid hd
      have hlc2 : l.length - (k + 1) ≤ c - (k + 1) := by omega
      clear hs hs2 hst hle hd
      go_wp2_with fail
      refine (impl_continuant _ (l.length - (k + 1)) _ B (l.drop (k + 1)) _ Hle.out (by omega) hlc2 Hs2.out (Hsm.out.drop _)).mono ?_
      rintro e w1 ⟨rfl, z, rfl⟩
      have Hb := Lib.hid (below_drewN hb z)
      clear hb
      by_cases hz : ctv (-1) (l.drop (k + 1)) = 0
      · have hE : divZ l = true := by rw [Hd.out, Hst.out, hz]; rfl
        have HE := Lib.hid hE
        rw [hz]
        clear hE hz
        go_wp2
        go_ret
        exact ⟨ret_bool HE.out.symm, Hb.out⟩
      · have hE : divZ l = divZ (l.drop (k + 1)) := by rw [Hd.out, Hst.out, decide_eq_false hz, Bool.false_or]
        have HE := Lib.hid hE
        generalize ctv (-1) (l.drop (k + 1)) = v at *
        have hv : (v == 0) = false := by simpa using hz
        clear hE hz
        go_wp2
        go_roundw
        case rel => exact ⟨k + 1, by omega, by go_num, HE.out, Hb.out⟩
        case measure => simp [intOf]; omega
    · have hE : divZ l = false := by rw [hd]; exact divZ_end l k (by omega)
      have HE := Lib.hid hE
      clear hE hd
      go_wp2
      go_ret
      exact ⟨ret_bool HE.out.symm, hb⟩

set_option maxHeartbeats 800000 in
theorem slices_Min (A : Option Addr) (n c B : Nat) (l : List Int) (w : World) (hn : l.length = n) (h0 : 0 < n) (hl : n ≤ 1000000) (h : SlI w B A l) :
    Calls Try.prog 68 #[.slice A n c] w fun e w' => e = .returned (.int .i64 (minF l (n - 1))) ∧ w = w' := by
  subst hn
  obtain ⟨b', off, rfl, hbB, hc⟩ := h h0
  have g00 := hc 0 h0
  rw [Nat.add_zero] at g00
  have e0 : minF l 0 = l.getD 0 0 := rfl
  rw [← e0] at g00
  have HC := Lib.hid hc
  have i00 : (1 : Int) ≤ (l.length : Int) := by omega
  clear hc h e0
  generalize hx0 : minF l 0 = x0 at *
  have Hx0 := Lib.hid hx0
  clear hx0
  go_enter Try.func68, Try.ntmps68
  go_wp2
  go_loop [3, 4] (fun m i => ∃ k : Nat, k < l.length ∧ i = .int .i64 ((k : Int) + 1) ∧ m = .int .i64 (minF l k)) (fun _ i => l.length - (intOf i).toNat)
  case atStart => exact ⟨0, h0, rfl, by rw [Hx0.out]⟩
  case round =>
    clear g00 Hx0
    obtain ⟨k, hk, rfl, rfl⟩ := hrel
    by_cases hlt : k + 1 < l.length
    · have g0 := HC.out (k + 1) hlt
      have i0 : (0 : Int) ≤ (k : Int) + 1 := by omega
      have i1 : (k : Int) + 1 < (l.length : Int) := by omega
      have hst : minF l (k + 1) = min (minF l k) (l.getD (k + 1) 0) := rfl
      have Hst := Lib.hid hst
      clear hst
      generalize minF l k = m at *
      generalize l.getD (k + 1) 0 = x at *
      go_wp2
      go_round
      case rel => exact ⟨k + 1, hlt, by go_num, by rw [Hst.out]; congr 1; split <;> omega⟩
      case measure => simp [intOf]; omega
    · have hE : minF l (l.length - 1) = minF l k := by rw [show l.length - 1 = k by omega]
      have HE := Lib.hid hE
      clear hE
      go_wp2
      go_ret
      exact ⟨ret_int HE.out.symm, rfl⟩
end Go.Proofs.Ytkekjcfhkecggaa
