/- The program's join and moveCorners (at the closures of turned and of MirrorPolygon). -/
import Derived.Test.YtaifgfmkkgndkabTurnM
import Derived.Test.YtaifgfmkkgndkabSort
import Derived.Test.YtaifgfmkkgndkabApp
namespace Go.Proofs.Ytaifgfmkkgndkab
set_option linter.unusedVariables false
open Go.RowKit

theorem impl_join (a b : Int) (w : World) : Calls Try.prog 68 #[.int .i64 a, .int .i64 b] w fun e w' => e = .returned (.agg #[.int .i64 (min a b), .int .i64 (max a b)]) ∧ Below w.heap.size w w' := by
  go_enter Try.func68, Try.ntmps68
  go_wp2
  all_goals exact bodyPost_ret (v := .agg #[.int .i64 (min a b), .int .i64 (max a b)]) (by simp [results, Try.results68, go_sem] <;> omega) rfl ⟨rfl, (Below.refl _ _).alloc (Nat.le_refl _) _⟩

/-- behind k moves: the others still zero -/
def halfM (f : Int → Int) (l : List (Int × Int)) (k : Nat) : List (Int × Int) := mvL f (l.take k) ++ List.replicate (l.length - k) (0, 0)
theorem halfM_length (f : Int → Int) (l : List (Int × Int)) (k : Nat) (h : k ≤ l.length) : (halfM f l k).length = l.length := by simp [halfM, mvL_length]; omega
theorem halfM_zero (f : Int → Int) (l : List (Int × Int)) : halfM f l 0 = List.replicate l.length (0, 0) := by simp [halfM, mvL]
theorem halfM_all (f : Int → Int) (l : List (Int × Int)) : halfM f l l.length = mvL f l := by simp [halfM]
theorem halfM_succ (f : Int → Int) (l : List (Int × Int)) (k : Nat) (h : k < l.length) : (halfM f l k).set k (mvD f (l.getD k (0, 0))) = halfM f l (k + 1) := by
  unfold halfM
  have hk : (mvL f (l.take k)).length = k := by rw [mvL_length]; simp; omega
  rw [List.set_append_right _ _ (by omega), hk, Nat.sub_self, show l.length - k = (l.length - (k + 1)) + 1 by omega, List.replicate_succ, List.set_cons_zero, mvL_take f l k h, List.append_assoc]
  simp

theorem cell_far {w w' : World} {g : Nat} {p : Addr} {v : Value} (h : w.cell? p = some v) (hg : w.grownBy w' (some g)) (hne : p.block ≠ g) : w'.cell? p = some v :=
  (World.cell?_of_block (hg.block p.block (World.block_lt_of_cell? w p h) (by intro e; injection e with e; exact hne e))).trans h
theorem far3 {B g : Nat} {w0 w w' : World} {p0 p1 p2 : Addr} {v0 v1 v2 : Value} (h : w.cell? p0 = some v0 ∧ w.cell? p1 = some v1 ∧ w.cell? p2 = some v2 ∧ Below B w0 w) (hg : w.grownBy w' (some g)) (hB : B ≤ w0.heap.size) (hgB : B ≤ g)
    (n0 : p0.block ≠ g) (n1 : p1.block ≠ g) (n2 : p2.block ≠ g) : w'.cell? p0 = some v0 ∧ w'.cell? p1 = some v1 ∧ w'.cell? p2 = some v2 ∧ Below B w0 w' :=
  ⟨cell_far h.1 hg n0, cell_far h.2.1 hg n1, cell_far h.2.2.1 hg n2, below_grown h.2.2.2 hg hB (fun k hk => by injection hk with hk; omega)⟩
theorem far4 {B g : Nat} {w0 w w' : World} {p0 p1 p2 p3 : Addr} {v0 v1 v2 v3 : Value} (h : w.cell? p0 = some v0 ∧ w.cell? p1 = some v1 ∧ w.cell? p2 = some v2 ∧ w.cell? p3 = some v3 ∧ Below B w0 w) (hg : w.grownBy w' (some g)) (hB : B ≤ w0.heap.size) (hgB : B ≤ g)
    (n0 : p0.block ≠ g) (n1 : p1.block ≠ g) (n2 : p2.block ≠ g) (n3 : p3.block ≠ g) : w'.cell? p0 = some v0 ∧ w'.cell? p1 = some v1 ∧ w'.cell? p2 = some v2 ∧ w'.cell? p3 = some v3 ∧ Below B w0 w' :=
  ⟨cell_far h.1 hg n0, cell_far h.2.1 hg n1, cell_far h.2.2.1 hg n2, cell_far h.2.2.2.1 hg n3, below_grown h.2.2.2.2 hg hB (fun k hk => by injection hk with hk; omega)⟩

theorem slices_SortFunc_n (g cap n base e : Nat) (l : List (Int × Int)) (w : World) (hn : l.length = n) (h : w.ownsRow base e 2 (.slice (some ⟨g, 0, none⟩) n cap) n (dcs l)) (h12 : n ≤ 12) :
    Calls Try.prog 110 #[.slice (some ⟨g, 0, none⟩) n cap, .func (.func 111) #[] #[]] w fun r w' =>
      r = .returned (.tuple #[]) ∧ w'.ownsRow base e 2 (.slice (some ⟨g, 0, none⟩) n cap) n (dcs (sortD l)) ∧ w.grownBy w' (some g) := by
  subst hn
  exact slices_SortFunc g cap base e l w h h12

end Go.Proofs.Ytaifgfmkkgndkab
