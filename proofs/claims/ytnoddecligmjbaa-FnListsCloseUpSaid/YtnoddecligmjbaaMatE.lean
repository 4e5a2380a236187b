/- Squares and matrices compared: the four numbers, one after the other. -/
import Derived.Test.YtnoddecligmjbaaMatP
import Derived.Test.YtnoddecligmjbaaMatL
import Derived.ChangeKeysEq
namespace Go.Proofs.Ytnoddecligmjbaa
set_option linter.unusedVariables false
open Go.RowKit

theorem eqB_bool (a b c d e f g h : Int) : M4.eqB ⟨a, b, c, d⟩ ⟨e, f, g, h⟩ = ((a == e) && ((b == f) && ((c == g) && (d == h)))) := by
  unfold M4.eqB
  rw [Bool.eq_iff_iff]
  simp
theorem plain_int4 : Try.prog.plainKey 3 = true := by kernel_rfl
theorem cells_int4 : Try.prog.cellsOf 3 = 1 := by kernel_rfl
set_option maxRecDepth 100000 in
theorem run_items4 (xs ys : List Int) (w : World) : ∀ is : List Nat, (∀ i ∈ is, i < xs.length ∧ i < ys.length) →
    (Op.eqItems 9999 3 1 (ics xs).toArray (ics ys).toArray is).run Try.prog w = .ok (is.all fun i => xs.getD i 0 == ys.getD i 0) w := by
  have e : ∀ (a b : Int) (w : World), (Op.equalIn 9999 3 (.int .i64 a) (.int .i64 b)).run Try.prog w = .ok (a == b) w := fun a b w => run_equalIn_int w 9998 3 .i64 .i64 a b Try.underlying3
  intro is
  induction is with
  | nil => intro _; rfl
  | cons i is ih =>
    intro h
    obtain ⟨h1, h2⟩ := h i List.mem_cons_self
    have hx : (ics xs).toArray[i]? = some (.int .i64 (xs.getD i 0)) := by
      have := ics_get xs i h1
      simpa using this
    have hy : (ics ys).toArray[i]? = some (.int .i64 (ys.getD i 0)) := by
      have := ics_get ys i h2
      simpa using this
    simp only [Op.eqItems, Sem.run_bind, Nat.mul_one, run_part_plain w plain_int4 hx, run_part_plain w plain_int4 hy, e, Result.andThen_ok, List.all_cons]
    generalize (xs.getD i 0 == ys.getD i 0) = bx
    cases bx
    · simp only [Bool.not_false, if_true, Sem.run_pure, Bool.false_and]
    · simp only [Bool.not_true, Bool.false_eq_true, if_false, Bool.true_and, Sem.run_bind]
      exact ih fun k hk => h k (List.mem_cons_of_mem _ hk)
set_option maxRecDepth 100000 in
theorem run_sq_eq (a b c d e f g h : Int) (w : World) :
    (Op.equalIn 10000 110 (.agg #[.int .i64 a, .int .i64 b, .int .i64 c, .int .i64 d]) (.agg #[.int .i64 e, .int .i64 f, .int .i64 g, .int .i64 h])).run Try.prog w = .ok (M4.eqB ⟨a, b, c, d⟩ ⟨e, f, g, h⟩) w := by
  obtain ⟨i0, hi, hz0, hz1, hz2⟩ := info_parts infoI
  have hr := run_items4 [a, b, c, d] [e, f, g, h] w (List.range 4) (fun i hi => by have := List.mem_range.1 hi; simp; omega)
  rw [run_equalIn_array (d := 9999) w _ _ Try.underlying110 hi, cells_int4]
  refine hr.trans ?_
  rw [eqB_bool, show List.range 4 = [0, 1, 2, 3] from rfl]
  simp
set_option maxRecDepth 100000 in
theorem run_mx_eq (a b c d e f g h : Int) (w : World) :
    (Op.equalIn 10000 76 (.agg #[.int .i64 a, .int .i64 b, .int .i64 c, .int .i64 d]) (.agg #[.int .i64 e, .int .i64 f, .int .i64 g, .int .i64 h])).run Try.prog w = .ok (M4.eqB ⟨a, b, c, d⟩ ⟨e, f, g, h⟩) w := by
  rw [run_equalIn_struct (d := 9999) w _ _ _ (by kernel_rfl) (by kernel_rfl)]
  rw [eqB_bool]
  have he : ∀ (a b : Int) (w : World), (Op.equalIn 9999 3 (.int .i64 a) (.int .i64 b)).run Try.prog w = .ok (a == b) w := fun a b w => run_equalIn_int w 9998 3 .i64 .i64 a b Try.underlying3
  have hf : (Try.prog.fieldsOf 76).toList.map (fun f => (decide (f.name ≠ "_"), f.type, f.offset)) = [(true, 3, 0), (true, 3, 1), (true, 3, 2), (true, 3, 3)] := by kernel_rfl
  generalize (Try.prog.fieldsOf 76).toList = fs at hf
  obtain ⟨f0, fs, rfl⟩ : ∃ x y, fs = x :: y := by cases fs with | nil => simp at hf | cons x y => exact ⟨x, y, rfl⟩
  obtain ⟨f1, fs, rfl⟩ : ∃ x y, fs = x :: y := by cases fs with | nil => simp at hf | cons x y => exact ⟨x, y, rfl⟩
  obtain ⟨f2, fs, rfl⟩ : ∃ x y, fs = x :: y := by cases fs with | nil => simp at hf | cons x y => exact ⟨x, y, rfl⟩
  obtain ⟨f3, fs, rfl⟩ : ∃ x y, fs = x :: y := by cases fs with | nil => simp at hf | cons x y => exact ⟨x, y, rfl⟩
  simp only [List.map_cons, List.cons.injEq, Prod.mk.injEq, decide_eq_true_eq, List.map_eq_nil_iff] at hf
  obtain ⟨⟨n0, t0, o0⟩, ⟨n1, t1, o1⟩, ⟨n2, t2, o2⟩, ⟨n3, t3, o3⟩, rfl⟩ := hf
  have p : ∀ (i : Nat) (v : Value) (xs : Array Value) (w : World), xs[i]? = some v → (part 3 xs i).run Try.prog w = .ok v w := fun i v xs w hx => run_part_plain w plain_int4 hx
  simp only [Op.eqFields, Sem.run_bind, if_pos n0, if_pos n1, if_pos n2, if_pos n3, t0, t1, t2, t3, o0, o1, o2, o3]
  rw [p 0 (.int .i64 a) _ _ rfl]
  simp only [Result.andThen_ok]
  rw [p 0 (.int .i64 e) _ _ rfl]
  simp only [Result.andThen_ok, he]
  generalize (a == e) = b0
  cases b0
  · simp
  simp only [Bool.not_true, Bool.false_eq_true, if_false, Bool.true_and, Sem.run_bind]
  rw [p 1 (.int .i64 b) _ _ rfl]
  simp only [Result.andThen_ok]
  rw [p 1 (.int .i64 f) _ _ rfl]
  simp only [Result.andThen_ok, he]
  generalize (b == f) = b1
  cases b1
  · simp
  simp only [Bool.not_true, Bool.false_eq_true, if_false, Bool.true_and, Sem.run_bind]
  rw [p 2 (.int .i64 c) _ _ rfl]
  simp only [Result.andThen_ok]
  rw [p 2 (.int .i64 g) _ _ rfl]
  simp only [Result.andThen_ok, he]
  generalize (c == g) = b2
  cases b2
  · simp
  simp only [Bool.not_true, Bool.false_eq_true, if_false, Bool.true_and, Sem.run_bind]
  rw [p 3 (.int .i64 d) _ _ rfl]
  simp only [Result.andThen_ok]
  rw [p 3 (.int .i64 h) _ _ rfl]
  simp only [Result.andThen_ok, he]
  generalize (d == h) = b3
  cases b3 <;> simp
end Go.Proofs.Ytnoddecligmjbaa
