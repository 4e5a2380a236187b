/- MirrorPolygon: the model's and the program's contract, and the law's walk. -/
import Derived.Test.YtjpcmkginfbkbabTurnPolygonW
import Derived.Test.YtjpcmkginfbkbabMirrorPolygonC
namespace Go.Proofs.Ytjpcmkginfbkbab
set_option linter.unusedVariables false
open Go.RowKit

theorem mirrL_no {n : Int} {l : List (Int × Int)} (h : triB n l = false) : mirrL n l = [] := by simp [mirrL, h]
theorem mirrL_yes {n : Int} {l : List (Int × Int)} (h : triB n l = true) : mirrL n l = sortD (mvL (mirrF n) l) := by simp [mirrL, h]

theorem spec_MirrorPolygon (n : Int) (A : Option Addr) (c B : Nat) (l : List (Int × Int)) (w : World) (h : SlD w B A l) (hB : B ≤ w.heap.size) (hl : l.length ≤ 1048576) (hlc : l.length ≤ c) :
    Calls Try.prog 18 #[.int .i64 n, .slice A l.length c] w (RetD w (mirrL n l) (triB n l)) := by
  go_enter Try.func18, Try.ntmps18
  go_wp2_with fail
  refine (spec_poGood n A c B l _ h hB hl hlc).mono ?_
  rintro e w1 ⟨rfl, hb1⟩
  cases ht : triB n l
  · have hres : RetD w (mirrL n l) (triB n l) (.returned (.tuple #[.slice none 0 0, .bool false])) w1 := by
      rw [mirrL_no ht, ht]
      exact retD_nil hb1
    have Hres := Lib.hid hres
    clear hres h hb1
    go_wp2
    go_ret2
    exact Hres.out
  · have hn := tri_n ht
    obtain ⟨m, rfl⟩ := Int.eq_ofNat_of_zero_le (show 0 ≤ n by omega)
    have hm12 : m ≤ 12 := by omega
    clear hn
    go_wp2_with fail
    refine (spec_poMirror m m A c B l _ rfl hm12 ht (h.below (hb1.mono hB)) (Nat.le_trans hB hb1.size)).mono ?_
    rintro e w2 ⟨A', c', rfl, ho, hb2⟩
    have hres : RetD w (mirrL m l) (triB m l) (.returned (.tuple #[.slice A' (sortD (mvL (mirrF m) l)).length c', .bool true])) w2 := by
      rw [mirrL_yes ht, ht]
      exact ⟨A', c', rfl, ho.mono hb1.size, below_kept hb1 (Nat.le_refl _) hb2⟩
    have Hres := Lib.hid hres
    clear hres h hb1 hb2 ho
    go_wp2
    go_ret2
    exact Hres.out

theorem impl_MirrorPolygon (n : Int) (A : Option Addr) (c B : Nat) (l : List (Int × Int)) (w : World) (h : SlD w B A l) (hB : B ≤ w.heap.size) (hl : l.length ≤ 1048576) (hlc : l.length ≤ c) :
    Calls Try.prog 19 #[.int .i64 n, .slice A l.length c] w (RetD w (mirrL n l) (triB n l)) := by
  have hmf : ∀ (fn : Fn) (first cap : Array Value) (w : World), (Instr.makeFunc fn first cap).run Try.prog w = .ok (.func fn first cap) w := fun _ _ _ _ => rfl
  go_enter Try.func19, Try.ntmps19
  go_wp2_with fail
  have hbx : Below w.heap.size w (w.alloc (.cells #[.int .i64 n] 3)) := (Below.refl _ _).alloc (Nat.le_refl _) _
  refine (impl_IsTriangulation n A c B l _ (h.below (hbx.mono hB)) (by simp; omega) hl hlc).mono ?_
  rintro e w1 ⟨rfl, hb1⟩
  have hd1 := below_kept hbx (Nat.le_refl _) hb1
  have hcell : w1.cell? ⟨w.heap.size, 0, none⟩ = some (.int .i64 n) := cell_kept hb1 (by simp [go_sem])
  clear hbx hb1
  cases ht : triB n l
  · have hres : RetD w (mirrL n l) (triB n l) (.returned (.tuple #[.slice none 0 0, .bool false])) w1 := by
      rw [mirrL_no ht, ht]
      exact retD_nil hd1
    have Hres := Lib.hid hres
    clear hres h hd1 hcell hmf
    go_wp2
    go_ret2
    exact Hres.out
  · have hn := tri_n ht
    have hmem := tri_mem ht
    have Hin : Hid (∀ d ∈ l, 0 ≤ d.1 ∧ d.1 < 12 ∧ 0 ≤ d.2 ∧ d.2 < 12) := Lib.hid (fun d hd => by have := hmem d hd; omega)
    have hll : l.length ≤ 12 := by omega
    have hn1 : 1 ≤ n ∧ n ≤ 12 := by omega
    clear hn hmem
    have Hn1 := Lib.hid hn1
    clear hn1
    go_wp2_with fail
    refine (impl_move_mirror w.heap.size n A c B l _ hcell Hn1.out (h.below (hd1.mono hB)) (Nat.le_trans hB hd1.size) hll Hin.out).mono ?_
    rintro e w2 ⟨A', c', rfl, ho, hb2⟩
    have hres : RetD w (mirrL n l) (triB n l) (.returned (.tuple #[.slice A' (sortD (mvL (mirrF n) l)).length c', .bool true])) w2 := by
      rw [mirrL_yes ht, ht]
      exact ⟨A', c', rfl, ho.mono hd1.size, below_kept hd1 (Nat.le_refl _) hb2⟩
    have Hres := Lib.hid hres
    clear hres h hd1 hb2 ho hcell hmf
    go_wp2
    go_ret2
    exact Hres.out

theorem WMirrorPolygon.walk (w : World) (n : Int) (wn : (Lit.int .i64 n).wf = true) (A : Option Addr) (c : Nat) (l : List (Int × Int)) (h : SlD w w.heap.size A l)
    (hj : l.length ≤ c ∧ c ≤ maxLen ∧ ∀ x ∈ l, (Lit.int .i64 x.1).wf = true ∧ (Lit.int .i64 x.2).wf = true) :
    Calls Try.prog 4 #[.int .i64 n, .slice A l.length c] w fun e w' => e = .returned (.bool true) ∧ Below w.heap.size w w' :=
  WMirrorPolygon.core w n A c l h hj.1 hj.2.1 (mirrL n l) (triB n l) (mirrL_length n l)
    (Lib.hid fun A c w h hl hlc => spec_MirrorPolygon n A c _ l w h (Nat.le_refl _) hl hlc)
    (Lib.hid fun A c w h hl hlc => impl_MirrorPolygon n A c _ l w h (Nat.le_refl _) hl hlc)

end Go.Proofs.Ytjpcmkginfbkbab
