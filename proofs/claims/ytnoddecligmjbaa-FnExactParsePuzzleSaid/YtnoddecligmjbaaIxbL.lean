/- strings.IndexByte: the library's contract at this seat's numbers. -/
import Derived.Shelf.Small.Strs
import Derived.Test.YtnoddecligmjbaaProg
import Derived.Test.YtnoddecligmjbaaProg
namespace Go.Proofs.Ytnoddecligmjbaa
set_option linter.unusedVariables false
open Go.Shelf Go.RowKit
def ixbR : Go.Shelf.Ren := ⟨fun | 137 => 116 | 217 => 160 | 266 => 182 | n => n,
  fun | 3 => 3 | 5 => 5 | 9 => 9 | n => n, fun  | n => n⟩
theorem ixbL : Go.Proofs.Lays.n137 Try.prog ixbR := {
  mixed := by kernel_rfl
  f137 := Try.func116.trans (congrArg some (by kernel_rfl))
  f217 := Try.func160.trans (congrArg some (by kernel_rfl))
  f266 := Try.func182.trans (congrArg some (by kernel_rfl))
  t3 := Try.underlying3
  a3 := Try.isAgg3
  z3 := Try.sizeOf3
  v3 := Try.zeroValue3
  t5 := Try.underlying5
  a5 := Try.isAgg5
  z5 := Try.sizeOf5
  v5 := Try.zeroValue5
  t9 := Try.underlying9
  a9 := Try.isAgg9
  z9 := Try.sizeOf9
  v9 := Try.zeroValue9
}
theorem impl_IndexByte (s : ByteArray) (b : UInt8) (z : Int) (hz : z = (b.toNat : Int)) (w : World) :
    Calls Try.prog 116 #[.string s, .int .u8 z] w fun e w' => e = .returned (.int .i64 (Lib.indexByte s.data.toList b)) ∧ w' = w := by
  have h : z.toNat.toUInt8 = b := by
    subst hz
    simp
  rw [← h]
  exact Any.strings_IndexByte ixbL s z w
end Go.Proofs.Ytnoddecligmjbaa
