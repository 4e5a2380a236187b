/- The program's otherDiagonal and flipped. -/
import Derived.Test.YtlnnnjnboknoeaaFliI
import Derived.Test.YtlnnnjnboknoeaaAppI
import Derived.Test.YtlnnnjnboknoeaaAppS
import Derived.Test.YtlnnnjnboknoeaaTriJ
import Derived.Deep.Cut
namespace Go.Proofs.Ytlnnnjnboknoeaa
set_option linter.unusedVariables false
open Go.RowKit

/-- the tips among the first k corners -/
def tipsK (e : Int × Int) (k : Nat) : List Int := if (k : Int) ≤ e.1 then [] else if (k : Int) ≤ e.2 then [e.1] else [e.1, e.2]
theorem tipsK_zero {e : Int × Int} (h : 0 ≤ e.1) : tipsK e 0 = [] := by unfold tipsK; rw [if_pos (by simpa using h)]
theorem tipsK_hit {e : Int × Int} {k : Nat} (h : e.1 < e.2) (hk : (k : Int) = e.1 ∨ (k : Int) = e.2) : tipsK e (k + 1) = tipsK e k ++ [(k : Int)] := by
  unfold tipsK
  rcases hk with hk | hk
  · rw [if_neg (by omega), if_pos (by omega), if_pos (by omega)]; simp [hk]
  · rw [if_neg (by omega), if_neg (by omega), if_neg (by omega), if_pos (by omega)]; simp [hk]
theorem tipsK_miss {e : Int × Int} {k : Nat} (h1 : ¬(k : Int) = e.1) (h2 : ¬(k : Int) = e.2) : tipsK e (k + 1) = tipsK e k := by
  unfold tipsK
  by_cases a : (k : Int) ≤ e.1
  · rw [if_pos (by omega), if_pos a]
  · rw [if_neg (by omega), if_neg a]
    by_cases b : (k : Int) ≤ e.2
    · rw [if_pos (by omega), if_pos b]
    · rw [if_neg (by omega), if_neg b]
theorem tipsK_all {e : Int × Int} {n : Nat} (h : e.1 < e.2) (hn : e.2 < n) : tipsK e n = [e.1, e.2] := by
  unfold tipsK
  rw [if_neg (by omega), if_neg (by omega)]
theorem tipsK_le (e : Int × Int) (k : Nat) : (tipsK e k).length ≤ 2 := by
  unfold tipsK
  split
  · simp
  · split <;> simp

set_option maxRecDepth 100000 in
set_option maxHeartbeats 800000 in
theorem slices_CloneD (A : Option Addr) (n c B : Nat) (l : List (Int × Int)) (w : World) (hl : l.length = n) (h : SlD w B A l) (hB : B ≤ w.heap.size) (h0 : 0 < n) (hn : n ≤ 1000000) :
    Calls Try.prog 74 #[.slice A n c] w (GivD w l) := by
  obtain ⟨b, off, rfl, hb, hc⟩ := h (by omega)
  have he : ∀ w : World, (binOp .eql 25 (.slice (some ⟨b, off, none⟩) n c) (.slice none 0 0)).run Try.prog w = .ok (.bool false) w := fun w => Lib.run_eql_slice_nil w 25 49 (some ⟨b, off, none⟩) n c 0 0 Try.underlying25
  have own0 := own_made w (B := w.heap.size) (Nat.le_refl _)
  have hs : SlD (w.alloc (.cells #[] 49)) B (some ⟨b, off, none⟩) l := h.below (((Below.refl _ _).alloc (Nat.le_refl _) _).mono hB)
  have Hl := Lib.hid hl
  have Hs := Lib.hid hs
  clear hc h hl hs
  go_enter Try.func74, Try.ntmps74
  go_wp2_with (at_builtin; refine wpList_appendN _ rfl _ _ rfl w.heap.size (.slice (some ⟨w.heap.size, 0, none⟩) 0 0) 0 [] rfl rfl own0 (some ⟨b, off, none⟩) n c l B n (by omega) rfl Hl.out Hs.out (by omega) hn (by simp) ?_; intro A' c' w1 hown1 hgrow1)
  have hb1 : Below w.heap.size w w1 := ((Below.refl w.heap.size w).alloc (Nat.le_refl _) (.cells #[] 49)).grown hgrow1 (by simp) (above_blk (Nat.le_refl _))
  rw [List.nil_append] at hown1
  have hres : GivD w l (.returned (.slice A' n c')) w1 := ⟨A', c', by rw [Hl.out], by rw [Hl.out]; exact hown1, hb1⟩
  have Hres := Lib.hid hres
  clear hres hown1 hgrow1 hb1 own0
  go_wp2
  go_ret
  exact Hres.out

theorem set_perm {l : List (Int × Int)} (hnd : l.Nodup) {k : Nat} (hk : k < l.length) {d e : Int × Int} (hd : l.getD k (0, 0) = d) : (l.set k e).Perm (l.filter (fun f => decide (f ≠ d)) ++ [e]) := by
  rw [getD_at hk] at hd
  subst hd
  have h1 : l.Perm (l[k] :: (l.take k ++ l.drop (k + 1))) := by
    conv => lhs; rw [← List.take_append_drop k l, List.drop_eq_getElem_cons hk]
    exact List.perm_middle
  have h2 := perm_erase hnd (List.getElem_mem hk)
  have h3 := List.Perm.cons_inv (h1.symm.trans h2)
  rw [List.set_eq_take_append_cons_drop, if_pos hk]
  exact List.perm_middle.trans ((h3.cons e).trans (List.perm_append_comm (l₁ := [e])))
theorem set_sort {l : List (Int × Int)} (hnd : l.Nodup) {k : Nat} (hk : k < l.length) {d e : Int × Int} (hd : l.getD k (0, 0) = d) : sortD (l.set k e) = exch l d e :=
  sortD_unique (sortD_spec _).1 ((sortD_spec _).2.trans (set_perm hnd hk hd))

theorem retD_none {w w' : World} (hb : Below w.heap.size w w') : RetD w [] false (.returned (.tuple #[.slice none 0 0, .bool false])) w' := ⟨none, 0, rfl, World.ownsRow_nil _ _ _ _, hb⟩
/-- the diagonal that comes in; none of another list -/
noncomputable def othR (n : Int) (l : List (Int × Int)) (d : Int × Int) : Int × Int := if (triB n l && decide (d ∈ l)) = true then oth n l d else (0, 0)
noncomputable def flipR (n : Int) (l : List (Int × Int)) (d : Int × Int) : List (Int × Int) := if (triB n l && decide (d ∈ l)) = true then flipL n l d else []
theorem othR_no {n : Int} {l : List (Int × Int)} {d : Int × Int} (h : (triB n l && decide (d ∈ l)) = false) : othR n l d = (0, 0) := by unfold othR; rw [h]; rfl
theorem othR_yes {n : Int} {l : List (Int × Int)} {d : Int × Int} (h : (triB n l && decide (d ∈ l)) = true) : othR n l d = oth n l d := by unfold othR; rw [if_pos h]
theorem flipR_no {n : Int} {l : List (Int × Int)} {d : Int × Int} (h : (triB n l && decide (d ∈ l)) = false) : flipR n l d = [] := by unfold flipR; rw [h]; rfl
theorem flipR_yes {n : Int} {l : List (Int × Int)} {d : Int × Int} (h : (triB n l && decide (d ∈ l)) = true) : flipR n l d = flipL n l d := by unfold flipR; rw [if_pos h]
def OthEnd (n : Int) (l : List (Int × Int)) (d : Int × Int) (w : World) (e : Ending) (w' : World) : Prop :=
  e = .returned (.tuple #[.agg #[.int .i64 (othR n l d).1, .int .i64 (othR n l d).2], .bool (triB n l && decide (d ∈ l))]) ∧ Below w.heap.size w w'

end Go.Proofs.Ytlnnnjnboknoeaa
