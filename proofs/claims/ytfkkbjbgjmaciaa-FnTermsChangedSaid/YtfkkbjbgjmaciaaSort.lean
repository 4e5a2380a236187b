/- slices.SortFunc at the program's diagonals, of at most twelve: walked through the library's own text. -/
import Derived.Test.YtfkkbjbgjmaciaaSortM
import Derived.Test.YtfkkbjbgjmaciaaTriI
import Derived.Test.YtfkkbjbgjmaciaaLawM
import Derived.RegionTactic
import Derived.BigRegion
import Derived.IntWalk
namespace Go.Proofs.Ytfkkbjbgjmaciaa
set_option linter.unusedVariables false
open Go.RowKit

theorem grown_kept {w0 w w' : World} {g : Nat} (h : w0.grownBy w (some g)) (hb : Below w.heap.size w w') : w0.grownBy w' (some g) :=
  h.trans ⟨hb.os, hb.tape, hb.output, hb.size, fun k hk _ => hb.block k hk⟩

def cmpV : Value := .func (.func 194) #[] #[]

/-- what the sort leaves: the row in order; nothing else that was there has turned -/
def Sorted (g cap base e : Nat) (l : List (Int × Int)) (w : World) (r : Ending) (w' : World) : Prop :=
  r = .returned (.tuple #[]) ∧ w'.ownsRow base e 2 (.slice (some ⟨g, 0, none⟩) l.length cap) l.length (dcs (sortD l)) ∧ w.grownBy w' (some g)

set_option maxRecDepth 100000 in
set_option maxHeartbeats 3200000 in
theorem insertionSort (g cap base e : Nat) (l : List (Int × Int)) (w : World) (h : w.ownsRow base e 2 (.slice (some ⟨g, 0, none⟩) l.length cap) l.length (dcs l)) (h12 : l.length ≤ 12) :
    Calls Try.prog 217 #[.slice (some ⟨g, 0, none⟩) l.length cap, .int .i64 0, .int .i64 l.length, .func (.func 194) #[] #[]] w (Sorted g cap base e l w) := by
  go_enter Try.func217, Try.ntmps217
  go_wp2
  go_loopw [8, 9] (fun i _ wr => ∃ k : Nat, ∃ P : List (Int × Int), 1 ≤ k ∧ (k ≤ l.length ∨ (k = 1 ∧ l.length = 0)) ∧ i = .int .i64 k ∧ P.Pairwise leP ∧ P.Perm (l.take k) ∧ wr.ownsRow base e 2 (.slice (some ⟨g, 0, none⟩) l.length cap) l.length (dcs (P ++ l.drop k)) ∧ w.grownBy wr (some g)) (fun i _ _ => l.length - (intOf i).toNat)
  case atStart =>
    refine ⟨1, l.take 1, by omega, by omega, rfl, ?_, List.Perm.refl _, by rw [List.take_append_drop]; exact h, World.grownBy.refl w _⟩
    match l with
    | [] => simp
    | [a] => simp
    | a :: b :: r => simp
  case round =>
    obtain ⟨k, P, hk1, hk2, rfl, hP, hperm, ho, hg⟩ := hrel
    by_cases hlt : k < l.length
    · have hPl : P.length = k := by rw [hperm.length_eq]; simp; omega
      generalize hx : l.getD k (0, 0) = x at *
      have hsplit : l.drop k = x :: l.drop (k + 1) := by
        rw [List.drop_eq_getElem_cons hlt, ← hx]
        simp [hlt]
      have htake : l.take (k + 1) = l.take k ++ [x] := by
        rw [List.take_succ_eq_append_getElem hlt, ← hx]
        simp [hlt]
      rw [hsplit] at ho
      have hstart : P ++ x :: l.drop (k + 1) = inn P x k (l.drop (k + 1)) := by
        unfold inn
        rw [← hPl, List.take_length, List.drop_length]
        rfl
      rw [hstart] at ho
      have Hinn0 : Hid (Inn P x k) := Lib.hid ⟨hP, by omega, by rw [← hPl, List.drop_length]; simp⟩
      have Hperm : Hid ((P ++ [x]).Perm (l.take (k + 1))) := Lib.hid (by rw [htake]; exact hperm.append_right [x])
      have HPl := Lib.hid hPl
      have hrl : P.length + 1 + (l.drop (k + 1)).length = l.length := by rw [hPl]; simp; omega
      have Hrl := Lib.hid hrl
      clear hsplit htake hstart hP hperm hPl hrl h hx
      go_wp2
      obtain ⟨wo, rfl⟩ : ∃ wo : World, wo = wr := ⟨_, rfl⟩
      go_loopw [9] (fun j wr => ∃ j' : Nat, j' ≤ k ∧ j = .int .i64 j' ∧ Inn P x j' ∧ wr.ownsRow base e 2 (.slice (some ⟨g, 0, none⟩) l.length cap) l.length (dcs (inn P x j' (l.drop (k + 1)))) ∧ w.grownBy wr (some g)) (fun j _ => (intOf j).toNat)
      case atStart => exact ⟨k, Nat.le_refl _, rfl, Hinn0.out, ho, hg⟩
      case round =>
        clear ho hg
        obtain ⟨j, hj, rfl, hinn, ho, hg⟩ := hrel
        have Hinn := Lib.hid hinn
        clear hinn Hinn0
        by_cases hj0 : j = 0
        · subst hj0
          have hs := Hinn.out.stop (.inl rfl)
          have hp := (inn_perm P x 0).trans Hperm.out
          have Hfin : Hid (∃ P : List (Int × Int), P.Pairwise leP ∧ P.Perm (l.take (k + 1)) ∧ wr.ownsRow base e 2 (.slice (some ⟨g, 0, none⟩) l.length cap) l.length (dcs (P ++ l.drop (k + 1)))) :=
            Lib.hid ⟨_, hs, hp, by unfold inn at ho; simpa using ho⟩
          clear hs hp ho
          go_wp2
          go_quiet (fail)
          go_wp2
          go_roundw
          case rel =>
            obtain ⟨P', h1, h2, h3⟩ := Hfin.out
            exact ⟨k + 1, P', by omega, by omega, by go_num, h1, h2, h3, grown_kept hg ((below_drewN (Below.refl _ _) _))⟩
          case measure => simp [intOf]; omega
        · have hj1 : 0 < j := by omega
          have hjP : j ≤ P.length := by rw [HPl.out]; exact hj
          have hxj := inn_at P x j (l.drop (k + 1)) hjP
          have hpj := inn_before P x j (l.drop (k + 1)) hjP hj1
          have hsw := inn_swap P x j (l.drop (k + 1)) hjP hj1
          have hil : (inn P x j (l.drop (k + 1))).length = l.length := by rw [inn_length, Hrl.out]
          have hstep := Hinn.out.step hj1
          have hstop := Hinn.out.stop (x := x) (j := j)
          generalize hp : P.getD (j - 1) (0, 0) = p at *
          obtain ⟨x0, x1⟩ := x
          obtain ⟨p0, p1⟩ := p
          dsimp only at hstep hstop
          have c0 : wr.cell? ⟨g, j * 2, none⟩ = some (.int .i64 x0) := by rw [ho.cellAt _ (by omega), dcs_get0 _ _ (by omega), hxj]
          have c1 : wr.cell? ⟨g, j * 2 + 1, none⟩ = some (.int .i64 x1) := by rw [ho.cellAt _ (by omega), dcs_get1 _ _ (by omega), hxj]
          have c2 : wr.cell? ⟨g, (j - 1) * 2, none⟩ = some (.int .i64 p0) := by rw [ho.cellAt _ (by omega), dcs_get0 _ _ (by omega), hpj]
          have c3 : wr.cell? ⟨g, (j - 1) * 2 + 1, none⟩ = some (.int .i64 p1) := by rw [ho.cellAt _ (by omega), dcs_get1 _ _ (by omega), hpj]
          have Hsw := Lib.hid hsw
          have Hil := Lib.hid hil
          have Hstep := Lib.hid hstep
          have Hstop := Lib.hid hstop
          clear hxj hpj hsw hil hstep hstop hp
          have i0 : (0 : Int) ≤ (j : Int) := by omega
          have i1 : (j : Int) < (l.length : Int) := by omega
          have i2 : (0 : Int) < (j : Int) := by omega
          have j0 : (0 : Int) ≤ (j : Int) - 1 := by omega
          have j1 : (j : Int) - 1 < (l.length : Int) := by omega
          have j3 : ((j : Int) - 1).toNat = j - 1 := by omega
          have j5 : (1 : Int) ≤ (j : Int) := by omega
          have j6 : (j : Int) ≤ (l.length : Int) := by omega
          have j7 : (j : Int) < (l.length : Int) + 1 := by omega
          go_wp2
          have j4 : IntKind.i64.wrap ((j : Int) - 1) = (j : Int) - 1 := IntWalk.i64_in _ (by omega)
          go_region_held3 (fun w' => w'.cell? ⟨g, j * 2, none⟩ = some (.int .i64 x0) ∧ w'.cell? ⟨g, j * 2 + 1, none⟩ = some (.int .i64 x1) ∧
              w'.cell? ⟨g, (j - 1) * 2, none⟩ = some (.int .i64 p0) ∧ w'.cell? ⟨g, (j - 1) * 2 + 1, none⟩ = some (.int .i64 p1) ∧ Below wr.heap.size wr w')
            (first
              | exact kept4 (by assumption) hb1 (Nat.le_refl _)
              | exact ⟨c0, c1, c2, c3, (Below.refl _ _).drew⟩)
            (first
              | (go_at_call 194; refine (impl_compareDiagonals _ _ _ _ _).mono ?_; rintro e w1 ⟨rfl, hb1⟩))
          rename_i hS
          have hd := hS.2.2.2.2
          have ho2 := own_kept ho hd
          have hg2 := grown_kept hg hd
          obtain ⟨d0, d1, d2, d3, -⟩ := hS
          clear hb1 hd ho hg c0 c1 c2 c3 j4 j3
          have hge := cmpD_ge x0 x1 p0 p1
          cases hz : ltB x0 x1 p0 p1
          · have hge2 : 0 ≤ cmpD x0 x1 p0 p1 := by rw [hz] at hge; simpa using hge
            have hs := Hstop.out (.inr hz)
            have hp := (inn_perm P (x0, x1) j).trans Hperm.out
            have Hfin : Hid (∃ P : List (Int × Int), P.Pairwise leP ∧ P.Perm (l.take (k + 1)) ∧ w1.ownsRow base e 2 (.slice (some ⟨g, 0, none⟩) l.length cap) l.length (dcs (P ++ l.drop (k + 1)))) :=
              Lib.hid ⟨_, hs, hp, by unfold inn at ho2; simpa using ho2⟩
            clear hs hp ho2 hge hz d0 d1 d2 d3
            go_wp2
            go_roundw
            case rel =>
              obtain ⟨P', h1, h2, h3⟩ := Hfin.out
              exact ⟨k + 1, P', by omega, by omega, by go_num, h1, h2, h3, hg2⟩
            case measure => simp [intOf]; omega
          · have hge2 : cmpD x0 x1 p0 p1 < 0 := by rw [hz] at hge; simp at hge; omega
            have Hst2 := Lib.hid (Hstep.out hz)
            clear hge hz
            have f0 := ho2.frozenAt (j * 2)
            have f1 := ho2.frozenAt (j * 2 + 1)
            have f2 := ho2.frozenAt ((j - 1) * 2)
            have f3 := ho2.frozenAt ((j - 1) * 2 + 1)
            have hjl : j < (inn P (x0, x1) j (l.drop (k + 1))).length := by rw [Hil.out]; omega
            obtain ⟨ho3, hg3⟩ := stored2 ho2 j hjl p0 p1
            obtain ⟨ho4, hg4⟩ := stored2 ho3 (j - 1) (by simp; omega) x0 x1
            rw [Hsw.out] at ho4
            have hg5 := (hg2.trans hg3).trans hg4
            clear ho2 ho3 hg2 hg3 hg4
            go_wp2
            have j3 : ((j : Int) - 1).toNat = j - 1 := by omega
            have j4 : IntKind.i64.wrap ((j : Int) - 1) = (j : Int) - 1 := IntWalk.i64_in _ (by omega)
            go_big_region
            clear j3 j4
            go_wp2
            go_roundw
            case rel => exact ⟨j - 1, by omega, by congr 1; omega, Hst2.out, ho4, grown_kept hg5 ((Below.refl _ _).drew)⟩
            case measure => simp [intOf]; omega
    · have hkl : l.take k = l ∧ l.drop k = [] := by
        constructor
        · exact List.take_of_length_le (by omega)
        · exact List.drop_eq_nil_of_le (by omega)
      rw [hkl.1] at hperm
      rw [hkl.2, List.append_nil] at ho
      have hfin : Sorted g cap base e l w (.returned (.tuple #[])) wr := ⟨rfl, by rw [← sortD_unique hP hperm]; exact ho, hg⟩
      have Hfin := Lib.hid hfin
      clear hkl hperm ho hfin h
      go_wp2
      go_end0
      exact Hfin.out

set_option maxRecDepth 100000 in
set_option maxHeartbeats 3200000 in
theorem pdqsort12 (lim : Int) (g cap base e : Nat) (l : List (Int × Int)) (w : World) (h : w.ownsRow base e 2 (.slice (some ⟨g, 0, none⟩) l.length cap) l.length (dcs l)) (h12 : l.length ≤ 12) :
    Calls Try.prog 209 #[.slice (some ⟨g, 0, none⟩) l.length cap, .int .i64 0, .int .i64 l.length, .int .i64 lim, .func (.func 194) #[] #[]] w (Sorted g cap base e l w) := by
  have i0 : (0 : Int) ≤ (l.length : Int) := by omega
  have i1 : (l.length : Int) ≤ 12 := by omega
  go_enter Try.func209, Try.ntmps209
  go_wp2
  refine wp_loop_rounds 1 ?_
  rw [rounds_succ]
  go_wp2_with fail
  refine (insertionSort g cap base e l _ h h12).mono ?_
  rintro e w1 hS
  have hr := hS.1
  subst hr
  have HS := Lib.hid hS
  clear hS h
  go_wp2
  go_end0
  exact HS.out

def SomeInt (w : World) (e : Ending) (w' : World) : Prop := ∃ r : Int, e = .returned (.int .i64 r) ∧ w = w'

set_option maxRecDepth 100000 in
theorem bits_Len12 : ∀ n : Nat, n ≤ 12 → ∀ w : World, Calls Try.prog 189 #[.int .u64 n] w (SomeInt w) := by
  intro n hn w
  have hcase : n = 0 ∨ n = 1 ∨ n = 2 ∨ n = 3 ∨ n = 4 ∨ n = 5 ∨ n = 6 ∨ n = 7 ∨ n = 8 ∨ n = 9 ∨ n = 10 ∨ n = 11 ∨ n = 12 := by omega
  rcases hcase with rfl | rfl | rfl | rfl | rfl | rfl | rfl | rfl | rfl | rfl | rfl | rfl | rfl
  all_goals (go_enter Try.func189, Try.ntmps189; go_wp2; go_ret; exact ⟨_, rfl, rfl⟩)

theorem slices_SortFunc (g cap base e : Nat) (l : List (Int × Int)) (w : World) (h : w.ownsRow base e 2 (.slice (some ⟨g, 0, none⟩) l.length cap) l.length (dcs l)) (h12 : l.length ≤ 12) :
    Calls Try.prog 193 #[.slice (some ⟨g, 0, none⟩) l.length cap, .func (.func 194) #[] #[]] w (Sorted g cap base e l w) := by
  go_enter Try.func193, Try.ntmps193
  go_wp2_with fail
  refine (bits_Len12 l.length h12 _).mono ?_
  rintro e1 w1 ⟨lim, rfl, rfl⟩
  go_wp2_with fail
  refine (pdqsort12 lim g cap base e l _ h h12).mono ?_
  rintro r w1 hS
  have hr := hS.1
  subst hr
  have HS := Lib.hid hS
  clear hS h
  go_wp2
  go_end0
  exact HS.out

end Go.Proofs.Ytfkkbjbgjmaciaa
