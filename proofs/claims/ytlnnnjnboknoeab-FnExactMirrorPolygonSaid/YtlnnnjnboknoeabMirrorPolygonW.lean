/- MirrorPolygon: the model's and the program's contract, and the law's walk. -/
import Derived.Test.YtlnnnjnboknoeabTurnPolygonW
import Derived.Test.YtlnnnjnboknoeabMirrorPolygonC
namespace Go.Proofs.Ytlnnnjnboknoeab
set_option linter.unusedVariables false
open Go.RowKit

theorem mirrL_no {n : Int} {l : List (Int × Int)} (h : triB n l = false) : mirrL n l = [] := by simp [mirrL, h]
theorem mirrL_yes {n : Int} {l : List (Int × Int)} (h : triB n l = true) : mirrL n l = sortD (mvL (mirrF n) l) := by simp [mirrL, h]

theorem spec_MirrorPolygon (n : Int) (A : Option Addr) (c B : Nat) (l : List (Int × Int)) (w : World) (h : SlD w B A l) (hB : B ≤ w.heap.size) (hl : l.length ≤ 1048576) (hlc : l.length ≤ c) :
    Calls Try.prog 49 #[.int .i64 n, .slice A l.length c] w (RetD w (mirrL n l) (triB n l)) := by
  go_enter Try.func49, Try.ntmps49
  go_wp2_with fail
  refine (spec_poGood n A c B l _ h hB hl hlc).mono ?_
  rintro e w1 ⟨rfl, hb1⟩
  cases ht : triB n l
  · have hres : RetD w (mirrL n l) (triB n l) (.returned (.tuple #[.slice none 0 0, .bool false])) w1 := by
      rw [mirrL_no ht, ht]
      exact retD_nil hb1
    have Hres := Lib.hid hres
    clear hres h hb1
    go_wp2
    go_ret2
    exact Hres.out
  · have hn := tri_n ht
    obtain ⟨m, rfl⟩ := Int.eq_ofNat_of_zero_le (show 0 ≤ n by omega)
    have hm12 : m ≤ 12 := by omega
    clear hn
    go_wp2_with fail
    refine (spec_poMirror m m A c B l _ rfl hm12 ht (h.below (hb1.mono hB)) (Nat.le_trans hB hb1.size)).mono ?_
    rintro e w2 ⟨A', c', rfl, ho, hb2⟩
    have hres : RetD w (mirrL m l) (triB m l) (.returned (.tuple #[.slice A' (sortD (mvL (mirrF m) l)).length c', .bool true])) w2 := by
      rw [mirrL_yes ht, ht]
      exact ⟨A', c', rfl, ho.mono hb1.size, below_kept hb1 (Nat.le_refl _) hb2⟩
    have Hres := Lib.hid hres
    clear hres h hb1 hb2 ho
    go_wp2
    go_ret2
    exact Hres.out

theorem impl_mirrored (m : Nat) (A : Option Addr) (c B n : Nat) (l : List (Int × Int)) (w : World) (hn : l.length = n) (ht : triB m l = true) (h : SlD w B A l) (hB : B ≤ w.heap.size) :
    Calls Try.prog 83 #[.int .i64 m, .slice A n c] w (GivD w (sortD (mvL (mirrF m) l))) := by
  subst hn
  have hmem := tri_mem ht
  have hn := tri_n ht
  have Hin : Hid (∀ d ∈ l, 0 ≤ d.1 ∧ d.1 < 12 ∧ 0 ≤ d.2 ∧ d.2 < 12) := Lib.hid (fun d hd => by have := hmem d hd; omega)
  have hll : l.length ≤ 12 := by omega
  have hn1 : 1 ≤ (m : Int) ∧ (m : Int) ≤ 12 := by omega
  have Hn1 := Lib.hid hn1
  have hmf : ∀ (fn : Fn) (first cap : Array Value) (w : World), (Instr.makeFunc fn first cap).run Try.prog w = .ok (.func fn first cap) w := fun _ _ _ _ => rfl
  clear hmem hn ht hn1
  go_enter Try.func83, Try.ntmps83
  go_wp2_with fail
  have hbB : Below w.heap.size w (w.alloc (.cells #[.int .i64 m] 3)) := (Below.refl _ _).alloc (Nat.le_refl _) _
  refine (impl_move_mirror w.heap.size m A c B l _ ?h1 Hn1.out ?h5 ?h6 hll Hin.out).mono ?_
  case h1 => simp [go_sem]
  case h5 => exact h.below (hbB.mono hB)
  case h6 => simp; omega
  rintro e w2 ⟨A', c', rfl, ho, hb2⟩
  have hres : GivD w (sortD (mvL (mirrF m) l)) (.returned (.slice A' (sortD (mvL (mirrF m) l)).length c')) w2 := ⟨A', c', rfl, ho.mono hbB.size, below_kept hbB (Nat.le_refl _) hb2⟩
  have Hres := Lib.hid hres
  clear hres h hbB hb2 ho hmf
  go_wp2
  go_ret
  exact Hres.out

theorem impl_MirrorPolygon (n : Int) (A : Option Addr) (c B : Nat) (l : List (Int × Int)) (w : World) (h : SlD w B A l) (hB : B ≤ w.heap.size) (hl : l.length ≤ 1048576) (hlc : l.length ≤ c) :
    Calls Try.prog 50 #[.int .i64 n, .slice A l.length c] w (RetD w (mirrL n l) (triB n l)) := by
  go_enter Try.func50, Try.ntmps50
  go_wp2_with fail
  refine (impl_IsTriangulation n A c B l _ h hB hl hlc).mono ?_
  rintro e w1 ⟨rfl, hb1⟩
  cases ht : triB n l
  · have hres : RetD w (mirrL n l) (triB n l) (.returned (.tuple #[.slice none 0 0, .bool false])) w1 := by
      rw [mirrL_no ht, ht]
      exact retD_nil hb1
    have Hres := Lib.hid hres
    clear hres h hb1
    go_wp2
    go_ret2
    exact Hres.out
  · have hn := tri_n ht
    obtain ⟨m, rfl⟩ := Int.eq_ofNat_of_zero_le (show 0 ≤ n by omega)
    clear hn
    go_wp2_with fail
    refine (impl_mirrored m A c B l.length l _ rfl ht (h.below (hb1.mono hB)) (Nat.le_trans hB hb1.size)).mono ?_
    rintro e w2 ⟨A', c', rfl, ho, hb2⟩
    have hres : RetD w (mirrL m l) (triB m l) (.returned (.tuple #[.slice A' (sortD (mvL (mirrF m) l)).length c', .bool true])) w2 := by
      rw [mirrL_yes ht, ht]
      exact ⟨A', c', rfl, ho.mono hb1.size, below_kept hb1 (Nat.le_refl _) hb2⟩
    have Hres := Lib.hid hres
    clear hres h hb1 hb2 ho
    go_wp2
    go_ret2
    exact Hres.out

theorem WMirrorPolygon.walk (w : World) (n : Int) (wn : (Lit.int .i64 n).wf = true) (A : Option Addr) (c : Nat) (l : List (Int × Int)) (h : SlD w w.heap.size A l)
    (hj : l.length ≤ c ∧ c ≤ maxLen ∧ ∀ x ∈ l, (Lit.int .i64 x.1).wf = true ∧ (Lit.int .i64 x.2).wf = true) :
    Calls Try.prog 14 #[.int .i64 n, .slice A l.length c] w fun e w' => e = .returned (.bool true) ∧ Below w.heap.size w w' :=
  WMirrorPolygon.core w n A c l h hj.1 hj.2.1 (mirrL n l) (triB n l) (mirrL_length n l)
    (Lib.hid fun A c w h hl hlc => spec_MirrorPolygon n A c _ l w h (Nat.le_refl _) hl hlc)
    (Lib.hid fun A c w h hl hlc => impl_MirrorPolygon n A c _ l w h (Nat.le_refl _) hl hlc)

end Go.Proofs.Ytlnnnjnboknoeab
