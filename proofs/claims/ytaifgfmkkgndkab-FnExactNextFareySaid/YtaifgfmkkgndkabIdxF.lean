/- slices.Index at fractions; the fraction behind one in a list. -/
import Derived.Test.YtaifgfmkkgndkabNbE
import Derived.Test.YtaifgfmkkgndkabMedW
import Derived.Test.YtaifgfmkkgndkabFarS
import Derived.Deep.QuietTactic
import Derived.BigQuiet
namespace Go.Proofs.Ytaifgfmkkgndkab
set_option linter.unusedVariables false
open Go.RowKit

/-- where a fraction first stands in a list; -1: nowhere -/
def IdxP (l : List (Int × Int)) (d : Int × Int) (r : Int) : Prop := (∃ k : Nat, k < l.length ∧ r = (k : Int) ∧ l.getD k (0, 0) = d ∧ ∀ j, j < k → l.getD j (0, 0) ≠ d) ∨ (r = -1 ∧ ∀ j, j < l.length → l.getD j (0, 0) ≠ d)
def IdxPE (l : List (Int × Int)) (d : Int × Int) (w : World) (e : Ending) (w' : World) : Prop := ∃ r, e = .returned (.int .i64 r) ∧ IdxP l d r ∧ Below w.heap.size w w'
/-- what follows a fraction in a list -/
def nxF : List (Int × Int) → Int × Int → Option (Int × Int)
  | a :: b :: r, f => if a = f then some b else nxF (b :: r) f
  | _, _ => none
theorem nxF_at : ∀ (l : List (Int × Int)) (f : Int × Int) (k : Nat), k + 1 < l.length → l.getD k (0, 0) = f → (∀ j, j < k → l.getD j (0, 0) ≠ f) → nxF l f = some (l.getD (k + 1) (0, 0))
  | [], _, _, h, _, _ => by simp at h
  | [a], _, _, h, _, _ => by simp at h
  | a :: b :: r, f, 0, _, h2, _ => by
    unfold nxF
    rw [if_pos (by simpa using h2)]
    rfl
  | a :: b :: r, f, k + 1, h1, h2, h3 => by
    unfold nxF
    rw [if_neg (by have := h3 0 (by omega); simpa using this)]
    exact nxF_at (b :: r) f k (by simpa using h1) (by simpa using h2) (fun j hj => by have := h3 (j + 1) (by omega); simpa using this)
theorem nxF_no : ∀ (l : List (Int × Int)) (f : Int × Int), (∀ j, j + 1 < l.length → l.getD j (0, 0) ≠ f) → nxF l f = none
  | [], _, _ => rfl
  | [a], _, _ => rfl
  | a :: b :: r, f, h => by
    unfold nxF
    rw [if_neg (by have := h 0 (by simp); simpa using this)]
    exact nxF_no (b :: r) f fun j hj => by have := h (j + 1) (by simpa using hj); simpa using this
theorem nxF_nil (f : Int × Int) : nxF [] f = none := rfl
/-- what is told of it -/
def nxR (o : Option (Int × Int)) : Int × Int := o.getD (0, 0)
def NxE (o : Option (Int × Int)) (w : World) (e : Ending) (w' : World) : Prop := MedE (nxR o) o.isSome w e w'
theorem nxE_no {l : List (Int × Int)} {f : Int × Int} {w w' : World} (h : nxF l f = none) (hb : Below w.heap.size w w') : NxE (nxF l f) w (.returned (.tuple #[.agg #[.int .i64 0, .int .i64 0], .bool false])) w' := by
  rw [h]; exact ⟨rfl, hb⟩
theorem nxE_yes {l : List (Int × Int)} {f g : Int × Int} {w w' : World} (h : nxF l f = some g) (hb : Below w.heap.size w w') : NxE (nxF l f) w (.returned (.tuple #[.agg #[.int .i64 g.1, .int .i64 g.2], .bool true])) w' := by
  rw [h]; exact ⟨rfl, hb⟩
set_option maxRecDepth 100000 in
set_option maxHeartbeats 1600000 in
theorem slices_IndexP (A : Option Addr) (n c B : Nat) (l : List (Int × Int)) (x y : Int) (w : World) (h : SlD w B A l) (hl : l.length = n) (hB : B ≤ w.heap.size) (hn : n ≤ 1000000) :
    Calls Try.prog 55 #[.slice A n c, .agg #[.int .i64 x, .int .i64 y]] w (IdxPE l (x, y) w) := by
  have Hl := Lib.hid hl
  have H := Lib.hid h
  clear hl h
  go_enter Try.func55, Try.ntmps55
  go_wp2
  go_loopw [5, 8] (fun _ i wr => ∃ k : Nat, k ≤ n ∧ i = .int .i64 k ∧ (∀ j, j < k → l.getD j (0, 0) ≠ (x, y)) ∧ wr.cell? ⟨w.heap.size, 0, none⟩ = some (.int .i64 x) ∧ wr.cell? ⟨w.heap.size, 1, none⟩ = some (.int .i64 y) ∧ Below w.heap.size w wr) (fun _ i _ => n - (intOf i).toNat)
  case atStart => exact ⟨0, Nat.zero_le _, rfl, fun j hj => by omega, by simp [go_sem], by simp [go_sem], (Below.refl _ _).alloc (Nat.le_refl _) _⟩
  case round =>
    obtain ⟨k, hk, rfl, hno, q0, q1, hb⟩ := hrel
    have Hno := Lib.hid hno
    clear hno
    by_cases hlt : k < n
    · obtain ⟨b, off, rfl, hbB, hc⟩ := H.out.below (hb.mono hB) (by have := Hl.out; omega)
      obtain ⟨g0, g1⟩ := hc k (by rw [Hl.out]; exact hlt)
      have i0 : (0 : Int) ≤ (k : Int) := by omega
      have i1 : (k : Int) < (n : Int) := by omega
      generalize hd : l.getD k (0, 0) = d at *
      have Hd := Lib.hid hd
      obtain ⟨u, v⟩ := d
      dsimp only at g0 g1
      clear hc hd
      have Hb := Lib.hid hb
      have hnext : (x, y) ≠ (u, v) → ∀ j, j < k + 1 → l.getD j (0, 0) ≠ (x, y) := fun hne j hj => by
        by_cases e : j = k
        · subst e; rw [Hd.out]; exact fun e => hne e.symm
        · exact Hno.out j (by omega)
      have Hnext := Lib.hid hnext
      have hEq := run_fr_eq x y u v
      clear hb hnext
      by_cases hx : (x, y) = (u, v)
      · have ht : ((x == u) && (y == v)) = true := frEq_iff.2 hx
        rw [ht] at hEq
        have hres : ∀ z : Nat, IdxPE l (x, y) w (.returned (.int .i64 k)) (wr.drewN z) := fun z => ⟨k, rfl, Or.inl ⟨k, by rw [Hl.out]; exact hlt, rfl, by rw [Hd.out, hx], Hno.out⟩, below_drewN Hb.out z⟩
        have Hres := Lib.hid hres
        clear hres ht hx
        go_wp2
        go_quiet (fail)
        go_wp2
        go_ret
        exact Hres.out _
      · have ht : ((x == u) && (y == v)) = false := by rw [Bool.eq_false_iff]; exact fun e => hx (frEq_iff.1 e)
        rw [ht] at hEq
        have Hx := Lib.hid hx
        clear ht hx
        go_wp2
        go_quiet (fail)
        go_wp2
        go_roundw
        case rel => exact ⟨k + 1, by omega, by go_num, Hnext.out Hx.out, q0, q1, below_drewN Hb.out _⟩
        case measure => simp [intOf]; omega
    · obtain rfl : k = n := by omega
      have hres : IdxPE l (x, y) w (.returned (.int .i64 (-1))) wr := ⟨-1, rfl, Or.inr ⟨rfl, by rw [Hl.out]; exact Hno.out⟩, hb⟩
      have Hres := Lib.hid hres
      clear hres
      go_wp2
      go_ret
      exact Hres.out
end Go.Proofs.Ytaifgfmkkgndkab
