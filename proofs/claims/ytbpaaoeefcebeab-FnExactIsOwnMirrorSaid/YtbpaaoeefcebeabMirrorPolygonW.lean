/- MirrorPolygon: the model's and the program's contract, and the law's walk. -/
import Derived.Test.YtbpaaoeefcebeabTurnPolygonW
import Derived.Test.YtbpaaoeefcebeabLawM
namespace Go.Proofs.Ytbpaaoeefcebeab
set_option linter.unusedVariables false
open Go.RowKit

theorem mirrL_no {n : Int} {l : List (Int × Int)} (h : triB n l = false) : mirrL n l = [] := by simp [mirrL, h]
theorem mirrL_yes {n : Int} {l : List (Int × Int)} (h : triB n l = true) : mirrL n l = sortD (mvL (mirrF n) l) := by simp [mirrL, h]

theorem impl_mirrored (m : Nat) (A : Option Addr) (c B n : Nat) (l : List (Int × Int)) (w : World) (hn : l.length = n) (ht : triB m l = true) (h : SlD w B A l) (hB : B ≤ w.heap.size) :
    Calls Try.prog 80 #[.int .i64 m, .slice A n c] w (GivD w (sortD (mvL (mirrF m) l))) := by
  subst hn
  have hmem := tri_mem ht
  have hn := tri_n ht
  have Hin : Hid (∀ d ∈ l, 0 ≤ d.1 ∧ d.1 < 12 ∧ 0 ≤ d.2 ∧ d.2 < 12) := Lib.hid (fun d hd => by have := hmem d hd; omega)
  have hll : l.length ≤ 12 := by omega
  have hn1 : 1 ≤ (m : Int) ∧ (m : Int) ≤ 12 := by omega
  have Hn1 := Lib.hid hn1
  have hmf : ∀ (fn : Fn) (first cap : Array Value) (w : World), (Instr.makeFunc fn first cap).run Try.prog w = .ok (.func fn first cap) w := fun _ _ _ _ => rfl
  clear hmem hn ht hn1
  go_enter Try.func80, Try.ntmps80
  go_wp2_with fail
  have hbB : Below w.heap.size w (w.alloc (.cells #[.int .i64 m] 3)) := (Below.refl _ _).alloc (Nat.le_refl _) _
  refine (impl_move_mirror w.heap.size m A c B l _ ?h1 Hn1.out ?h5 ?h6 hll Hin.out).mono ?_
  case h1 => simp [go_sem]
  case h5 => exact h.below (hbB.mono hB)
  case h6 => simp; omega
  rintro e w2 ⟨A', c', rfl, ho, hb2⟩
  have hres : GivD w (sortD (mvL (mirrF m) l)) (.returned (.slice A' (sortD (mvL (mirrF m) l)).length c')) w2 := ⟨A', c', rfl, ho.mono hbB.size, below_kept hbB (Nat.le_refl _) hb2⟩
  have Hres := Lib.hid hres
  clear hres h hbB hb2 ho hmf
  go_wp2
  go_ret
  exact Hres.out

end Go.Proofs.Ytbpaaoeefcebeab
