/- TurnPolygon: the model's and the program's contract, and the law's walk. -/
import Derived.Test.YtbpaaoeefcebeabTurnS
import Derived.Test.YtbpaaoeefcebeabMove
import Derived.Test.YtbpaaoeefcebeabTriS
import Derived.Test.YtbpaaoeefcebeabLawM
import Derived.OpenShut
namespace Go.Proofs.Ytbpaaoeefcebeab
set_option linter.unusedVariables false
open Go.RowKit

theorem spec_l1In (n lo hi : Int) (w : World) : Calls Try.prog 64 #[.int .i64 n, .int .i64 lo, .int .i64 hi] w fun e w' => e = .returned (.bool (inB n lo hi)) ∧ w = w' := by
  go_enter Try.func64, Try.ntmps64
  go_wp2
  all_goals go_ret
  all_goals refine ⟨ret_bool ?_, rfl⟩
  all_goals (unfold inB; rw [Bool.eq_iff_iff]; simp; try omega)

theorem turnL_no {n k : Int} {l : List (Int × Int)} (h : (triB n l && inB k 0 (n - 1)) = false) : turnL n l k = [] := by simp [turnL, h]
theorem turnL_yes {n k : Int} {l : List (Int × Int)} (h : (triB n l && inB k 0 (n - 1)) = true) : turnL n l k = sortD (mvL (turnF n k) l) := by simp [turnL, h]
theorem retD_nil {w w' : World} (hb : Below w.heap.size w w') : RetD w [] false (.returned (.tuple #[.slice none 0 0, .bool false])) w' := ⟨none, 0, rfl, World.ownsRow_nil _ _ _ _, hb⟩
theorem inB_iff {n lo hi : Int} : inB n lo hi = true ↔ lo ≤ n ∧ n ≤ hi := by unfold inB; simp

theorem impl_turned_d (m : Nat) (k : Int) (A : Option Addr) (c B : Nat) (l : List (Int × Int)) (w : World) (hm1 : 1 ≤ m) (hm12 : m ≤ 12) (hk : 0 ≤ k ∧ k < m) (ht : Dgs m l) (h : SlD w B A l) (hB : B ≤ w.heap.size) :
    Calls Try.prog 78 #[.int .i64 m, .slice A l.length c, .int .i64 k] w (GivD w (sortD (mvL (turnF m k) l))) := by
  have hmem := ht.2.2.2
  obtain ⟨hn3', hn12', hn, _⟩ := id ht
  have Hin : Hid (∀ d ∈ l, 0 ≤ d.1 ∧ d.1 < 12 ∧ 0 ≤ d.2 ∧ d.2 < 12) := Lib.hid (fun d hd => by have := hmem d hd; omega)
  have hll : l.length ≤ 12 := by omega
  have hmf : ∀ (fn : Fn) (first cap : Array Value) (w : World), (Instr.makeFunc fn first cap).run Try.prog w = .ok (.func fn first cap) w := fun _ _ _ _ => rfl
  clear hmem hn ht
  go_enter Try.func78, Try.ntmps78
  go_wp2_with fail
  have hbB : Below w.heap.size w ((w.alloc (.cells #[.int .i64 m] 3)).alloc (.cells #[.int .i64 k] 3)) := ((Below.refl _ _).alloc (Nat.le_refl _) _).alloc (by simp) _
  refine (impl_move_turn (w.heap.size + 1) w.heap.size k m A c B l _ ?h1 ?h2 ?h3 ?h4 ?h5 ?h6 hll Hin.out).mono ?_
  case h1 => simp [go_sem]
  case h2 => simp [go_sem]
  case h3 => omega
  case h4 => omega
  case h5 => exact h.below (hbB.mono hB)
  case h6 => simp; omega
  rintro e w2 ⟨A', c', rfl, ho, hb2⟩
  have hres : GivD w (sortD (mvL (turnF m k) l)) (.returned (.slice A' (sortD (mvL (turnF m k) l)).length c')) w2 := ⟨A', c', rfl, ho.mono hbB.size, below_kept hbB (Nat.le_refl _) hb2⟩
  have Hres := Lib.hid hres
  clear hres h hbB hb2 ho hmf
  go_wp2
  go_ret
  exact Hres.out
theorem impl_turned (m : Nat) (k : Int) (A : Option Addr) (c B : Nat) (l : List (Int × Int)) (w : World) (hm1 : 1 ≤ m) (hm12 : m ≤ 12) (hk : 0 ≤ k ∧ k < m) (ht : triB m l = true) (h : SlD w B A l) (hB : B ≤ w.heap.size) :
    Calls Try.prog 78 #[.int .i64 m, .slice A l.length c, .int .i64 k] w (GivD w (sortD (mvL (turnF m k) l))) := impl_turned_d m k A c B l w hm1 hm12 hk (tri_dgs ht) h hB


end Go.Proofs.Ytbpaaoeefcebeab
