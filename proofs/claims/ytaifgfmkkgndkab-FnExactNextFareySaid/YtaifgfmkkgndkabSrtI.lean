/- sortRising at fractions. -/
import Derived.Shelf.SlSortCmp.WholeK
import Derived.Test.YtaifgfmkkgndkabSrtW
import Derived.Test.YtaifgfmkkgndkabSrtL
namespace Go.Proofs.Ytaifgfmkkgndkab
set_option linter.unusedVariables false
open Go.RowKit

theorem toArray_map_toList (L : List Fx) : (L.toArray.toList.map fval) = L.map fval := rfl
set_option maxHeartbeats 1600000 in
theorem impl_sortRising (B g n c : Nat) (L : List Fx) (w : World) (hL : L.length = n) (hn : n ≤ 1000000) (hB : B ≤ w.heap.size)
    (ho : w.ownsRow B 32 2 (.slice (some ⟨g, 0, none⟩) n c) n (dcs (L.map fval))) :
    Calls Try.prog 52 #[.slice (some ⟨g, 0, none⟩) n c, .func (.func 53) #[] #[]] w fun e w' => e = .returned (.tuple #[]) ∧
      ∃ L' : List Fx, L'.Perm L ∧ (L'.map fval).Pairwise (fun x y => ¬ crs x y < 0) ∧ w'.ownsRow B 32 2 (.slice (some ⟨g, 0, none⟩) n c) n (dcs (L'.map fval)) ∧ Below B w w' := by
  have hbg : B ≤ g ∧ g < w.heap.size := ho.lt g rfl
  have hmf : ∀ (fn : Fn) (first cap : Array Value) (w : World), (Instr.makeFunc fn first cap).run Try.prog w = .ok (.func fn first cap) w := fun _ _ _ _ => rfl
  have eg : ∀ args w, (callFunc 81 args).run Try.prog w = .ok (.enter 81 args) w := enters_of Try.func81 (by kernel_rfl) rfl
  have HC : Hid (∀ (o : Obj), (w.alloc o).cell? ⟨w.heap.size, 0, none⟩ = some (.func (.func 53) #[] #[]) →
      Calls Try.prog 80 #[.slice (some ⟨g, 0, none⟩) n c, .func (.func 81) #[] #[.pointer (some ⟨w.heap.size, 0, none⟩)]] (w.alloc o)
        fun e w' => e = .returned (.tuple #[]) ∧ ∃ L' : List Fx, L'.Perm L ∧ (L'.map fval).Pairwise (fun x y => ¬ crs x y < 0) ∧ w'.ownsRow B 32 2 (.slice (some ⟨g, 0, none⟩) n c) n (dcs (L'.map fval)) ∧ Below B w w') := Lib.hid fun o hc => by
    have hsz : L.toArray.size = n := by simpa using hL
    have own1 := ho.alloc o
    have hcm := cmpLaysF (w.alloc o) w.heap.size g n hc (by omega)
    rw [← hsz] at hcm
    have hk := own_holdsK L.toArray hsz own1
    have hcon := AnyQ.slices_SortFunc srtFL 2 Try.isAgg32 Try.sizeOf32 encF (fun _ => rfl) (fun x v hv => by simp [encF] at hv; rcases hv with rfl | rfl <;> rfl) cmpF swoF 81 #[.pointer (some ⟨w.heap.size, 0, none⟩)] g 0 c L.toArray (w.alloc o) eg hcm hk (by simp; omega) (by omega)
    rw [hsz] at hcon
    refine Calls.mono hcon ?_
    rintro e w' ⟨rfl, d', m, os, hp, hs, rfl⟩
    obtain ⟨p1, _, p3⟩ := hp
    have hd : d'.size = n := p1.trans hsz
    rw [show d'.extract 0 n = d' by rw [← hd]; simp, show L.toArray.extract 0 n = L.toArray by rw [← hsz]; simp] at p3
    refine ⟨rfl, d'.toList, p3, ?_, own_sortWorldK d' hd own1, below_sortWorldK d' hbg.1 (by simp; omega) ((Below.refl B w).alloc hB o)⟩
    rw [List.pairwise_map, List.pairwise_iff_getElem]
    intro i j hi hj hij
    have := hs i j (Nat.zero_le _) hij (by simpa [hd] using hj)
    rw [ltF_iff, decide_eq_false_iff_not, getElem!_pos d' j (by simpa using hj), getElem!_pos d' i (by simpa using hi)] at this
    simpa using this
  clear ho hB hL eg
  go_enter Try.func52, Try.ntmps52
  go_wp2_with fail
  refine (HC.out _ (by simp [go_sem])).mono ?_
  rintro e w1 ⟨rfl, hx⟩
  have HX := Lib.hid hx
  clear hx
  go_wp2
  go_end0
  exact ⟨rfl, HX.out⟩
end Go.Proofs.Ytaifgfmkkgndkab
