/- The laws' markIntS from any number on (laws of two slices). -/
import Derived.Test.YtbpaaoeefcebeabLawM
namespace Go.Proofs.Ytbpaaoeefcebeab
set_option linter.unusedVariables false
open Go.RowKit

set_option maxHeartbeats 800000 in
theorem laws_markIntS_k (g cap base e : Nat) (l : List Int) (m : Int) (w : World) (h : w.ownsRow base e 1 (.slice (some ⟨g, 0, none⟩) l.length cap) l.length (ics l)) (hl : l.length ≤ 1000000000) (hm : 0 ≤ m ∧ m ≤ 4000000000) :
    Calls Try.prog 86 #[.slice (some ⟨g, 0, none⟩) l.length cap, .int .i64 m] w fun r w' => r = .returned (.int .i64 (m + (l.length : Int))) ∧ w.grownBy w' (some g) := by
  obtain ⟨_, _⟩ := hm
  go_enter Try.func86, Try.ntmps86
  go_wp2
  go_loopw [1, 5] (fun q i wr => ∃ (k : Nat) (L : List Int), k ≤ l.length ∧ L.length = l.length ∧ i = .int .i64 k ∧ q = .int .i64 (m + (k : Int)) ∧ wr.ownsRow base e 1 (.slice (some ⟨g, 0, none⟩) l.length cap) l.length (ics L) ∧ w.grownBy wr (some g)) (fun _ i _ => l.length - (intOf i).toNat)
  case atStart => exact ⟨0, l, Nat.zero_le _, rfl, rfl, by simp, h, World.grownBy.refl w _⟩
  case round =>
    obtain ⟨k, L, hk, hL, rfl, rfl, ho, hg⟩ := hrel
    have HL := Lib.hid hL
    clear hL
    by_cases hlt : k < l.length
    · have hcell : wr.cell? ⟨g, k, none⟩ = some (.int .i64 (L.getD k 0)) := by
        rw [ho.cellAt k (by omega), ics_get _ _ (by rw [HL.out]; exact hlt)]
      have hfro := ho.frozenAt k
      have hst := ho.stored k (.int .i64 (m + (k : Int)))
      rw [ics_set] at hst
      have HL2 : Hid ((L.set k (m + (k : Int))).length = l.length) := Lib.hid (by rw [List.length_set]; exact HL.out)
      obtain ⟨hs1, hs2⟩ := hst
      have hs3 := hg.trans hs2
      have k1 : (k : Int) ≤ 1000000000 := by omega
      clear ho h hs2 hg
      go_wp2
      go_roundw
      case rel => exact ⟨k + 1, _, by omega, HL2.out, by go_num, by simp; omega, hs1, hs3⟩
      case measure => simp [intOf]; omega
    · obtain rfl : k = l.length := by omega
      go_wp2
      go_ret
      exact ⟨rfl, hg⟩
end Go.Proofs.Ytbpaaoeefcebeab
