/- slices.Clone at []int, of a slice that holds something. -/
import Derived.Test.YtbpaaoeefcebeabLawM
import Derived.WalkSpells
import Derived.Lib.LazyBuf
namespace Go.Proofs.Ytbpaaoeefcebeab
set_option linter.unusedVariables false
open Go.RowKit

set_option maxRecDepth 100000 in
set_option maxHeartbeats 800000 in
theorem slices_Clone (A : Option Addr) (c B : Nat) (l : List Int) (w : World) (h : SlI w B A l) (hB : B ≤ w.heap.size) (h0 : 0 < l.length) (hl : l.length ≤ 1000000) :
    Calls Try.prog 117 #[.slice A l.length c] w (GivI w l) := by
  obtain ⟨b, off, rfl, hb, hc⟩ := h h0
  obtain ⟨i0, hi, hz0, hz1, hz2⟩ := info_parts infoI
  have he : ∀ w : World, (binOp .eql 50 (.slice (some ⟨b, off, none⟩) l.length c) (.slice none 0 0)).run Try.prog w = .ok (.bool false) w := fun w => Lib.run_eql_slice_nil w 50 3 (some ⟨b, off, none⟩) l.length c 0 0 Try.underlying50
  have own0 : (w.alloc (.cells #[] 3)).ownsRow w.heap.size 3 1 (.slice (some ⟨w.heap.size, 0, none⟩) 0 0) 0 [] := World.ownsRow_made w #[] 0 (Nat.le_refl _) (by decide) rfl
  have hnews : ∀ (j : Nat) (u : Value), (ics l)[j]? = some u → (w.alloc (.cells #[] 3)).cell? ((⟨b, off, none⟩ : Addr).add j) = some u := by
    intro j u hu
    have hj : j < l.length := by
      have := (List.getElem?_eq_some_iff.1 hu).1
      rwa [ics_length] at this
    rw [ics_get l j hj] at hu
    rw [Addr.add_lit, ← hu, ← hc j hj]
    exact (((Below.refl _ _).alloc (Nat.le_refl _) _).cell (p := ⟨b, off + j, none⟩) (by show b < w.heap.size; omega))
  have hone : ∀ u ∈ ics l, u.oneCell' = true := by
    intro u hu
    simp only [ics, List.mem_map] at hu
    obtain ⟨x, _, rfl⟩ := hu
    rfl
  have hlen : (ics l).length = l.length * 1 := by rw [ics_length, Nat.mul_one]
  have hmax : 0 + l.length ≤ maxLen := by unfold maxLen; omega
  have hbyt : (0 + l.length) * 8 ≤ 140737488355328 := by omega
  have Hnews := Lib.hid hnews
  have Hone := Lib.hid hone
  clear hc h hnews hone
  go_enter Try.func117, Try.ntmps117
  go_wp2_with (at_builtin; refine wpList_append_own _ rfl _ _ 50 rfl w.heap.size 3 i0 (.int .i64 0) 1 8 Try.underlying50 hi hz0 hz1 hz2 rfl (by decide) (.slice (some ⟨w.heap.size, 0, none⟩) 0 0) 0 [] rfl own0 ⟨b, off, none⟩ l.length c (ics l) rfl hlen Hnews.out Hone.out hmax hbyt (by simp) ?_; intro v' w1 hown1 hgrow1 _)
  have hb1 : Below w.heap.size w w1 := ((Below.refl w.heap.size w).alloc (Nat.le_refl _) (.cells #[] 3)).grown hgrow1 (by simp) (above_blk (Nat.le_refl _))
  rw [Nat.zero_add, List.nil_append] at hown1
  obtain ⟨A', c', rfl⟩ := own_form hown1
  have hres : GivI w l (.returned (.slice A' l.length c')) w1 := ⟨A', c', rfl, hown1, hb1⟩
  have Hres := Lib.hid hres
  clear hres hown1 hgrow1 hb1 own0
  go_wp2
  go_ret
  exact Hres.out

theorem slices_Clone_n (A : Option Addr) (n c B : Nat) (l : List Int) (w : World) (hn : l.length = n) (h : SlI w B A l) (hB : B ≤ w.heap.size) (h0 : 0 < n) (hl : n ≤ 1000000) :
    Calls Try.prog 117 #[.slice A n c] w (GivI w l) := by
  subst hn
  exact slices_Clone A c B l w h hB h0 hl

end Go.Proofs.Ytbpaaoeefcebeab
