/- Two fractions compared with '==': both numbers, one after the other. -/
import Derived.Test.YtaifgfmkkgndkabNbB
import Derived.ChangeKeysEq
namespace Go.Proofs.Ytaifgfmkkgndkab
set_option linter.unusedVariables false
open Go.RowKit

theorem plain_intF : Try.prog.plainKey 3 = true := by kernel_rfl
set_option maxRecDepth 100000 in
theorem run_fr_eqD (d : Nat) (a b c e : Int) (w : World) :
    (Op.equalIn (d + 2) 32 (.agg #[.int .i64 a, .int .i64 b]) (.agg #[.int .i64 c, .int .i64 e])).run Try.prog w = .ok ((a == c) && (b == e)) w := by
  rw [run_equalIn_struct (d := d + 1) w _ _ _ (by kernel_rfl) (by kernel_rfl)]
  have he : ∀ (a b : Int) (w : World), (Op.equalIn (d + 1) 3 (.int .i64 a) (.int .i64 b)).run Try.prog w = .ok (a == b) w := fun a b w => run_equalIn_int w d 3 .i64 .i64 a b Try.underlying3
  have hf : (Try.prog.fieldsOf 32).toList.map (fun f => (decide (f.name ≠ "_"), f.type, f.offset)) = [(true, 3, 0), (true, 3, 1)] := by kernel_rfl
  generalize (Try.prog.fieldsOf 32).toList = fs at hf
  obtain ⟨f0, fs, rfl⟩ : ∃ x y, fs = x :: y := by cases fs with | nil => simp at hf | cons x y => exact ⟨x, y, rfl⟩
  obtain ⟨f1, fs, rfl⟩ : ∃ x y, fs = x :: y := by cases fs with | nil => simp at hf | cons x y => exact ⟨x, y, rfl⟩
  simp only [List.map_cons, List.cons.injEq, Prod.mk.injEq, decide_eq_true_eq, List.map_eq_nil_iff] at hf
  obtain ⟨⟨n0, t0, o0⟩, ⟨n1, t1, o1⟩, rfl⟩ := hf
  have p : ∀ (i : Nat) (v : Value) (xs : Array Value) (w : World), xs[i]? = some v → (part 3 xs i).run Try.prog w = .ok v w := fun i v xs w hx => run_part_plain w plain_intF hx
  simp only [Op.eqFields, Sem.run_bind, if_pos n0, if_pos n1, t0, t1, o0, o1]
  rw [p 0 (.int .i64 a) _ _ rfl]
  simp only [Result.andThen_ok]
  rw [p 0 (.int .i64 c) _ _ rfl]
  simp only [Result.andThen_ok, he]
  generalize (a == c) = b0
  cases b0
  · simp
  simp only [Bool.not_true, Bool.false_eq_true, if_false, Bool.true_and, Sem.run_bind]
  rw [p 1 (.int .i64 b) _ _ rfl]
  simp only [Result.andThen_ok]
  rw [p 1 (.int .i64 e) _ _ rfl]
  simp only [Result.andThen_ok, he]
  generalize (b == e) = b1
  cases b1 <;> simp
theorem run_fr_eq (a b c e : Int) (w : World) :
    (Op.equalIn 10000 32 (.agg #[.int .i64 a, .int .i64 b]) (.agg #[.int .i64 c, .int .i64 e])).run Try.prog w = .ok ((a == c) && (b == e)) w := run_fr_eqD 9998 a b c e w
theorem frEq_iff {a b c e : Int} : ((a == c) && (b == e)) = true ↔ (a, b) = (c, e) := by
  rw [Prod.mk.injEq, Bool.and_eq_true, beq_iff_eq, beq_iff_eq]
end Go.Proofs.Ytaifgfmkkgndkab
