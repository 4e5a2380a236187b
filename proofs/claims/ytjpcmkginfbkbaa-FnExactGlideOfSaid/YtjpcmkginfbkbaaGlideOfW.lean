/- GlideOf: the model's and the program's contract, and the law's walk. -/
import Derived.Test.YtjpcmkginfbkbaaEntryOfW
import Derived.Test.YtjpcmkginfbkbaaGlideOfC
namespace Go.Proofs.Ytjpcmkginfbkbaa
set_option linter.unusedVariables false
open Go.RowKit

def glA (q : List Int) (i j : Int) : Int := if okE q i j = true then mdI j q.length else 0
def glB (q : List Int) (i j : Int) : Int := if okE q i j = true then i + q.length - (j - mdI j q.length) else 0
def GlEnd (q : List Int) (i j : Int) (w : World) (e : Ending) (w' : World) : Prop := e = .returned (.tuple #[.int .i64 (glA q i j), .int .i64 (glB q i j), .bool (okE q i j)]) ∧ Below w.heap.size w w'
theorem glEnd_no {q : List Int} {i j : Int} {w w' : World} (h : okE q i j = false) (hb : Below w.heap.size w w') : GlEnd q i j w (.returned (.tuple #[.int .i64 0, .int .i64 0, .bool false])) w' := by
  unfold GlEnd glA glB
  rw [h]
  exact ⟨rfl, hb⟩
theorem glEnd_yes {q : List Int} {i j : Int} {w w' : World} (h : okE q i j = true) (hb : Below w.heap.size w w') : GlEnd q i j w (.returned (.tuple #[.int .i64 (mdI j q.length), .int .i64 (i + q.length - (j - mdI j q.length)), .bool true])) w' := by
  unfold GlEnd glA glB
  rw [h]
  exact ⟨rfl, hb⟩

set_option maxRecDepth 100000 in
set_option maxHeartbeats 1600000 in
theorem spec_GlideOf (A : Option Addr) (c B : Nat) (q : List Int) (i j : Int) (w : World) (h : SlI w B A q) (hB : B ≤ w.heap.size) (hl : q.length ≤ 1048576) (hlc : q.length ≤ c) :
    Calls Try.prog 41 #[.slice A q.length c, .int .i64 i, .int .i64 j] w (GlEnd q i j w) := by
  go_enter Try.func41, Try.ntmps41
  go_wp2_with fail
  refine (spec_IsQuiddity A c B q _ h hB hl hlc).mono ?_
  rintro e w1 ⟨rfl, hb1⟩
  clear h
  cases hq : isQ q
  · have hres := glEnd_no (q := q) (i := i) (j := j) (by unfold okE; rw [hq]; rfl) hb1
    have Hres := Lib.hid hres
    clear hres hb1
    go_wp2
    go_ret3
    exact Hres.out
  · have hlen := isQ_len hq
    obtain ⟨hn3, hn12⟩ := hlen
    go_wp2_with fail
    refine (spec_frIndex _ _).mono ?_
    rintro e w2 ⟨rfl, rfl⟩
    cases hi : inB i (-1000) 1000
    · have hres := glEnd_no (q := q) (i := i) (j := j) (by unfold okE; rw [hi]; simp) hb1
      have Hres := Lib.hid hres
      clear hres hb1
      go_wp2
      go_ret3
      exact Hres.out
    · obtain ⟨i0, i1⟩ := inB_iff'.1 hi
      have n0 : (3 : Int) ≤ (q.length : Int) := by omega
      have n1 : (q.length : Int) ≤ 12 := by omega
      go_wp2_with fail
      refine (spec_l1In' _ _ _ _).mono ?_
      rintro e w2 ⟨rfl, rfl⟩
      cases hj : inB j i (i + q.length)
      · have hres := glEnd_no (q := q) (i := i) (j := j) (by unfold okE; rw [hj]; simp) hb1
        have Hres := Lib.hid hres
        clear hres hb1
        go_wp2
        go_ret3
        exact Hres.out
      · obtain ⟨j0, j1⟩ := inB_iff'.1 hj
        have hok : okE q i j = true := okE_iff.2 ⟨hq, ⟨i0, i1⟩, j0, j1⟩
        have hres := glEnd_yes hok hb1
        have Hres := Lib.hid hres
        have hmd := mdI_eq j q.length
        have Hmd := Lib.hid hmd
        clear hres hok hmd hb1 hq hi hj
        obtain ⟨n, hn⟩ : ∃ n : Int, n = (q.length : Int) := ⟨_, rfl⟩
        have Hn := Lib.hid hn
        have m0 : 3 ≤ n := by omega
        have m1 : n ≤ 12 := by omega
        have m2 : j ≤ i + n := by omega
        rw [← hn]
        clear hn
        go_wp2
        go_loop [10, 11] (fun a b => ∃ s : Int, a = .int .i64 s ∧ b = .int .i64 (i + n - (j - s)) ∧ Hid (s % n = j % n) ∧ -1000 ≤ s ∧ s ≤ 1012) (fun a _ => (- intOf a).toNat)
        case atStart => exact ⟨j, rfl, by congr 1 <;> omega, rfl, by omega, by omega⟩
        case round =>
          obtain ⟨s, rfl, rfl, hs, s0, s1⟩ := hrel
          by_cases hneg : s < 0
          · have hn1 : (s + n) % n = j % n := by rw [Int.add_emod_right]; exact hs.out
            have Hn1 := Lib.hid hn1
            clear hn1 hs
            go_wp2
            go_round
            case rel => exact ⟨s + n, rfl, by congr 1 <;> omega, Hn1, by omega, by omega⟩
            case measure => simp [intOf]; omega
          · have s2 : 0 ≤ s := by omega
            go_wp2
            go_loop [10, 11] (fun a b => ∃ s : Int, a = .int .i64 s ∧ b = .int .i64 (i + n - (j - s)) ∧ Hid (s % n = j % n) ∧ 0 ≤ s ∧ s ≤ 1012) (fun a _ => (intOf a).toNat)
            case atStart => exact ⟨s, rfl, rfl, hs, s2, s1⟩
            case round =>
              clear hs s0 s1 s2 hneg
              obtain ⟨t, rfl, rfl, hs, s0, s1⟩ := hrel
              by_cases hge : n ≤ t
              · have hn1 : (t - n) % n = j % n := by rw [Int.sub_emod_right]; exact hs.out
                have Hn1 := Lib.hid hn1
                clear hn1 hs
                go_wp2
                go_round
                case rel => exact ⟨t - n, rfl, by congr 1 <;> omega, Hn1, by omega, by omega⟩
                case measure => simp [intOf]; omega
              · have hsv : t = mdI j q.length := by
                  rw [Hmd.out, ← Hn.out, ← hs.out]
                  exact (Int.emod_eq_of_lt s0 (by omega)).symm
                have hfin : GlEnd q i j w (.returned (.tuple #[.int .i64 t, .int .i64 (i + n - (j - t)), .bool true])) w1 := by
                  have := Hres.out
                  rw [← hsv, ← Hn.out] at this
                  exact this
                have Hfin := Lib.hid hfin
                clear hfin hsv hs Hres
                go_wp2
                go_ret3
                exact Hfin.out

set_option maxRecDepth 100000 in
theorem impl_GlideOf (A : Option Addr) (c B : Nat) (q : List Int) (i j : Int) (w : World) (h : SlI w B A q) (hB : B ≤ w.heap.size) (hl : q.length ≤ 1048576) (hlc : q.length ≤ c) :
    Calls Try.prog 42 #[.slice A q.length c, .int .i64 i, .int .i64 j] w (GlEnd q i j w) := by
  go_enter Try.func42, Try.ntmps42
  go_wp2_with fail
  refine (impl_hasEntry A c B q i j _ h hB hl hlc).mono ?_
  rintro e w1 ⟨rfl, hb1⟩
  clear h
  cases hok : okE q i j
  · have hres := glEnd_no hok hb1
    have Hres := Lib.hid hres
    clear hres hb1
    go_wp2
    go_ret3
    exact Hres.out
  · obtain ⟨hq, ⟨i0, i1⟩, j0, j1⟩ := okE_iff.1 hok
    obtain ⟨hn3, hn12⟩ := isQ_len hq
    have hres := glEnd_yes hok hb1
    have hmb := mdI_bd j q.length (by omega)
    obtain ⟨mb0, mb1⟩ := hmb
    have n0 : (3 : Int) ≤ (q.length : Int) := by omega
    have n1 : (q.length : Int) ≤ 12 := by omega
    have Hres := Lib.hid hres
    clear hres hb1 hok hq
    go_wp2_with fail
    refine (impl_modulo j q.length _ ⟨by omega, by omega⟩ ⟨by omega, by omega⟩).mono ?_
    rintro e w2 ⟨rfl, rfl⟩
    generalize mdI j q.length = s at *
    go_wp2
    go_ret3
    exact Hres.out

theorem WGlideOf.walk (w : World) (A : Option Addr) (c : Nat) (l : List Int) (h : SlI w w.heap.size A l)
    (hj : l.length ≤ c ∧ c ≤ maxLen ∧ ∀ x ∈ l, (Lit.int .i64 x).wf = true) (i : Int) (wi : (Lit.int .i64 i).wf = true) (j : Int) (wj : (Lit.int .i64 j).wf = true) :
    Calls Try.prog 11 #[.slice A l.length c, .int .i64 i, .int .i64 j] w fun e w' => e = .returned (.bool true) ∧ Below w.heap.size w w' :=
  WGlideOf.core w A c l i j h hj.1 hj.2.1 (glA l i j) (glB l i j) (okE l i j)
    (Lib.hid fun A c w h hl hlc => spec_GlideOf A c _ l i j w h (Nat.le_refl _) hl hlc)
    (Lib.hid fun A c w h hl hlc => impl_GlideOf A c _ l i j w h (Nat.le_refl _) hl hlc)
end Go.Proofs.Ytjpcmkginfbkbaa
