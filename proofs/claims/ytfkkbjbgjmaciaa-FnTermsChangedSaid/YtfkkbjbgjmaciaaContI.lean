/- The program's continuants: functions that call themselves. -/
import Derived.Test.YtfkkbjbgjmaciaaContS
import Derived.Deep.QuietTactic
import Derived.BigQuiet
namespace Go.Proofs.Ytfkkbjbgjmaciaa
set_option linter.unusedVariables false
open Go.RowKit

/-- a number is given back; the world has only drawn -/
def NumQ (v : Int) (w : World) (e : Ending) (w' : World) : Prop := e = .returned (.int .i64 v) ∧ ∃ k, w' = w.drewN k

set_option maxRecDepth 100000 in
set_option maxHeartbeats 3200000 in
theorem impl_signed (s : Int) (hs : s = 1 ∨ s = -1) : ∀ (n : Nat) (A : Option Addr) (c B : Nat) (l : List Int) (w : World) (hn : l.length = n) (h10 : n ≤ 10) (hlc : n ≤ c) (h : SlI w B A l) (hsm : Small l),
    Calls Try.prog 169 #[.int .i64 s, .slice A n c] w fun e w' => e = .returned (.int .i64 (ctv s l)) ∧ ∃ k, w' = w.drewN k := by
  intro n
  induction n using Nat.strongRecOn with
  | _ n ih =>
  intro A c B l w hn h10 hlc h hsm
  have hfin0 : n = 0 → ctv s l = 1 := fun e => by
    obtain rfl : l = [] := List.eq_nil_of_length_eq_zero (by omega)
    exact ctv_nil s
  have hfin1 : n = 1 → ctv s l = l.getD 0 0 := fun e => by
    obtain ⟨x, rfl⟩ := List.length_eq_one_iff.1 (show l.length = 1 by omega)
    rw [ctv_one]; rfl
  have hfin2 : ∀ k, n = k + 2 → ctv s l = ctv s (l.take (k + 1)) * l.getD (k + 1) 0 + s * ctv s (l.take k) := fun k e => by
    have := ctv_take s l k (by omega)
    rw [List.take_of_length_le (by omega)] at this
    rw [this, Int.mul_comm]
  by_cases h0 : n = 0
  · have e := hfin0 h0
    subst h0
    have E := Lib.hid e
    clear e hfin0 hfin1 hfin2 ih hn h hsm hs
    go_enter Try.func169, Try.ntmps169
    go_wp2
    go_ret
    exact ⟨ret_int E.out.symm, 0, rfl⟩
  by_cases h1 : n = 1
  · have e := hfin1 h1
    subst h1
    obtain ⟨b, off, rfl, hb, hc⟩ := h (by omega)
    have g0 := hc 0 (by omega)
    rw [Nat.add_zero] at g0
    have E := Lib.hid e
    clear e hfin0 hfin1 hfin2 ih hn hsm hs hc h
    generalize l.getD 0 0 = x at *
    go_enter Try.func169, Try.ntmps169
    go_wp2
    go_ret
    exact ⟨ret_int E.out.symm, 0, rfl⟩
  · obtain ⟨k, hk⟩ : ∃ k, n = k + 2 := ⟨n - 2, by omega⟩
    have e := hfin2 k hk
    have E := Lib.hid e
    obtain ⟨b, off, rfl, hb, hc⟩ := h (by omega)
    have g0 := hc (k + 1) (by omega)
    have hx := hsm.get (k + 1) (by omega)
    have lt1 : (l.take (k + 1)).length = k + 1 := by simp; omega
    have lt2 : (l.take k).length = k := by simp; omega
    have bd1 := ctv_bd9 hs (l.take (k + 1)) (hsm.take _) (by omega)
    have bd2 := ctv_bd9 hs (l.take k) (hsm.take _) (by omega)
    have ih1 : ∀ w, SlI w B (some ⟨b, off, none⟩) l → Calls Try.prog 169 #[.int .i64 s, .slice (some ⟨b, off, none⟩) (k + 1) (k + 1)] w fun e w' => e = .returned (.int .i64 (ctv s (l.take (k + 1)))) ∧ ∃ k, w' = w.drewN k := fun w hw =>
      ih (k + 1) (by omega) _ _ B (l.take (k + 1)) w lt1 (by omega) (Nat.le_refl _) (hw.take _) (hsm.take _)
    have ih2 : ∀ w, SlI w B (some ⟨b, off, none⟩) l → Calls Try.prog 169 #[.int .i64 s, .slice (some ⟨b, off, none⟩) k k] w fun e w' => e = .returned (.int .i64 (ctv s (l.take k))) ∧ ∃ k, w' = w.drewN k := fun w hw =>
      ih k (by omega) _ _ B (l.take k) w lt2 (by omega) (Nat.le_refl _) (hw.take _) (hsm.take _)
    have hpr := mul_bd hx bd1
    have hsp : -26439622160671 ≤ s * ctv s (l.take k) ∧ s * ctv s (l.take k) ≤ 26439622160671 := by
      rcases hs with rfl | rfl <;> omega
    rw [Int.mul_comm (l.getD (k + 1) 0) _] at hpr
    obtain ⟨hp1, hp2⟩ := hpr
    obtain ⟨hs1, hs2⟩ := hsp
    generalize ctv s (l.take (k + 1)) = v1 at *
    generalize ctv s (l.take k) = v2 at *
    generalize l.getD (k + 1) 0 = x at *
    have hpr3 : -793188664820130 ≤ v1 * x := by omega
    have hpr4 : v1 * x ≤ 793188664820130 := by omega
    have hk8 : (k : Int) ≤ 8 := by omega
    have n1 : (n : Int) - 1 = (k : Int) + 1 := by omega
    have n0 : ((n : Int) == 0) = false := by simp; omega
    have n2 : ((n : Int) == 1) = false := by simp; omega
    have k1 : (k : Int) + 1 - 1 = (k : Int) := by omega
    have kc : (k : Int) + 1 ≤ (c : Int) := by omega
    have kn : (k : Int) + 1 < (n : Int) := by omega
    have kz : (0 : Int) ≤ (k : Int) + 1 := by omega
    have kz2 : (0 : Int) ≤ (k : Int) := by omega
    have kc2 : (k : Int) ≤ (c : Int) := by omega
    have kt : ((k : Int) + 1).toNat = k + 1 := by omega
    have Ih1 := Lib.hid ih1
    have Ih2 := Lib.hid ih2
    have H := Lib.hid h
    clear e hfin0 hfin1 hfin2 ih ih1 ih2 hn hsm hs hc h bd1 bd2 hx lt1 lt2 hp1 hp2 hk h0 h1
    go_enter Try.func169, Try.ntmps169
    go_wp2
    go_quiet (first
      | (go_at_call 169; with_reducible exact Calls.quiet_of (Ih1.out _ (H.out.drewN _)))
      | (go_at_call 169; with_reducible exact Calls.quiet_of (Ih2.out _ (H.out.drewN _))))
    go_wp2
    go_ret
    exact ⟨ret_int E.out.symm, _, rfl⟩

theorem impl_continuant (A : Option Addr) (n c B : Nat) (l : List Int) (w : World) (hn : l.length = n) (h10 : n ≤ 10) (hlc : n ≤ c) (h : SlI w B A l) (hsm : Small l) :
    Calls Try.prog 96 #[.slice A n c] w fun e w' => e = .returned (.int .i64 (ctv (-1) l)) ∧ ∃ k, w' = w.drewN k := by
  have Hn := Lib.hid hn
  have Hsm := Lib.hid hsm
  clear hn hsm
  go_enter Try.func96, Try.ntmps96
  go_wp2_with fail
  refine (impl_signed (-1) (.inr rfl) n A c B l _ Hn.out h10 hlc h Hsm.out).mono ?_
  rintro e w1 ⟨rfl, k, rfl⟩
  clear h
  go_wp2
  go_ret
  exact ⟨rfl, k, rfl⟩
theorem impl_plusContinuant (A : Option Addr) (n c B : Nat) (l : List Int) (w : World) (hn : l.length = n) (h10 : n ≤ 10) (hlc : n ≤ c) (h : SlI w B A l) (hsm : Small l) :
    Calls Try.prog 98 #[.slice A n c] w fun e w' => e = .returned (.int .i64 (ctv 1 l)) ∧ ∃ k, w' = w.drewN k := by
  have Hn := Lib.hid hn
  have Hsm := Lib.hid hsm
  clear hn hsm
  go_enter Try.func98, Try.ntmps98
  go_wp2_with fail
  refine (impl_signed 1 (.inl rfl) n A c B l _ Hn.out h10 hlc h Hsm.out).mono ?_
  rintro e w1 ⟨rfl, k, rfl⟩
  clear h
  go_wp2
  go_ret
  exact ⟨rfl, k, rfl⟩
end Go.Proofs.Ytfkkbjbgjmaciaa
