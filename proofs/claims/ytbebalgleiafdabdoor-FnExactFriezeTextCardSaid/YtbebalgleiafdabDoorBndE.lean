/- Bands compared. -/
import Derived.Test.YtbebalgleiafdabDoorRowOfFriezeW
import Derived.ChangeKeysEq
namespace Go.Proofs.YtbebalgleiafdabDoor
set_option linter.unusedVariables false
open Go.RowKit

theorem cells_int : Tryd.prog.cellsOf 3 = 1 := by kernel_rfl
theorem plain_int : Tryd.prog.plainKey 3 = true := by kernel_rfl
set_option maxRecDepth 100000 in
theorem run_items (xs ys : List Int) (w : World) : ∀ is : List Nat, (∀ i ∈ is, i < xs.length ∧ i < ys.length) →
    (Op.eqItems 9999 3 1 (ics xs).toArray (ics ys).toArray is).run Tryd.prog w = .ok (is.all fun i => xs.getD i 0 == ys.getD i 0) w := by
  have e : ∀ (a b : Int) (w : World), (Op.equalIn 9999 3 (.int .i64 a) (.int .i64 b)).run Tryd.prog w = .ok (a == b) w := fun a b w => run_equalIn_int w 9998 3 .i64 .i64 a b Tryd.underlying3
  intro is
  induction is with
  | nil => intro _; rfl
  | cons i is ih =>
    intro h
    obtain ⟨h1, h2⟩ := h i List.mem_cons_self
    have hx : (ics xs).toArray[i]? = some (.int .i64 (xs.getD i 0)) := by
      have := ics_get xs i h1
      simpa using this
    have hy : (ics ys).toArray[i]? = some (.int .i64 (ys.getD i 0)) := by
      have := ics_get ys i h2
      simpa using this
    simp only [Op.eqItems, Sem.run_bind, Nat.mul_one, run_part_plain w plain_int hx, run_part_plain w plain_int hy, e, Result.andThen_ok, List.all_cons]
    generalize (xs.getD i 0 == ys.getD i 0) = bx
    cases bx
    · simp only [Bool.not_false, if_true, Sem.run_pure, Bool.false_and]
    · simp only [Bool.not_true, Bool.false_eq_true, if_false, Bool.true_and]
      exact ih fun k hk => h k (List.mem_cons_of_mem _ hk)
set_option maxRecDepth 100000 in
theorem run_band_eq (xs ys : List Int) (hx : xs.length = 12) (hy : ys.length = 12) (w : World) :
    (Op.equalIn 10000 98 (.agg (ics xs).toArray) (.agg (ics ys).toArray)).run Tryd.prog w = .ok (decide (xs = ys)) w := by
  obtain ⟨i0, hi, hz0, hz1, hz2⟩ := info_parts infoI
  rw [run_equalIn_array (d := 9999) w _ _ Tryd.underlying98 hi, cells_int, run_items xs ys w (List.range 12) (fun i hi => by have := List.mem_range.1 hi; omega)]
  congr 1
  rw [Bool.eq_iff_iff, List.all_eq_true, decide_eq_true_iff]
  constructor
  · intro h
    apply List.ext_getElem (by omega)
    intro i h1 h2
    have := h i (List.mem_range.2 (by omega))
    simpa [List.getD_eq_getElem?_getD, h1, h2] using this
  · rintro rfl i _
    simp

end Go.Proofs.YtbebalgleiafdabDoor
