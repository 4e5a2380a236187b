/- The walk of FractionOfPath's law, out of the contracts of the model's function and of the program's. -/
import Derived.Test.YtaifgfmkkgndkaaLawF
import Derived.Test.YtaifgfmkkgndkaaBx2
namespace Go.Proofs.Ytaifgfmkkgndkaa
set_option linter.unusedVariables false
open Go.RowKit

theorem below_alloc1X {B : Nat} {w0 w : World} (h : Below B w0 w) (hB : B ≤ w0.heap.size) (o : Obj) : Below B w0 (w.alloc o) := h.alloc (Nat.le_trans hB h.size) o
set_option maxHeartbeats 1600000 in
theorem WFractionOfPath.core (w : World) (a : ByteArray) (p q : Int) (ok : Bool)
    (hs : Hid (∀ w : World, Calls Try.prog 39 #[.string a] w (fun e w' => e = .returned (.tuple #[.agg #[.int .i64 p, .int .i64 q], .bool ok]) ∧ Below w.heap.size w w')))
    (hi : Hid (∀ w : World, Calls Try.prog 40 #[.string a] w (fun e w' => e = .returned (.tuple #[.agg #[.int .i64 p, .int .i64 q], .bool ok]) ∧ Below w.heap.size w w'))) :
    Calls Try.prog 12 #[.string a] w fun e w' => e = .returned (.bool true) ∧ Below w.heap.size w w' := by
  by_cases hl : a.size ≤ 1048576
  · have hd := Below.refl w.heap.size w
    have hl2 : ¬ (1048576 : Int) < (a.size : Int) := by omega
    go_enter Try.func12, Try.ntmps12
    go_wp2_with fail
    refine (hs.out _).mono ?_
    rintro e whW ⟨rfl, hb⟩
    replace hd := below_kept hd (Nat.le_refl _) hb
    have S := Bx2.new whW 25 p q
    replace hd := below_alloc1X hd (Nat.le_refl _) (.cells #[.int .i64 p, .int .i64 q] 25)
    clear hb
    go_wp2_with fail
    refine (hi.out _).mono ?_
    rintro e whG ⟨rfl, hb⟩
    replace S := S.kept hb
    replace hd := below_kept hd (Nat.le_refl _) hb
    clear hb
    have S1 := S
    have yS := S.lt
    obtain ⟨⟨s0, s1⟩, s2, s3⟩ := S1
    go_wp2_with fail
    refine (laws_eqFraction p q _).mono ?_
    rintro e wq0 ⟨rfl, hb⟩
    replace hd := below_kept (below_alloc1X hd (Nat.le_refl _) _) (Nat.le_refl _) hb
    clear hb S s0 s1 s2 s3 yS hs hi
    go_wp2
    go_ret
    exact ⟨rfl, hd⟩
  · have hdd := Below.refl w.heap.size w
    have hl2 : (1048576 : Int) < (a.size : Int) := by omega
    clear hs hi
    go_enter Try.func12, Try.ntmps12
    go_wp2_with fail
    go_ret
    exact ⟨rfl, hdd⟩

end Go.Proofs.Ytaifgfmkkgndkaa
