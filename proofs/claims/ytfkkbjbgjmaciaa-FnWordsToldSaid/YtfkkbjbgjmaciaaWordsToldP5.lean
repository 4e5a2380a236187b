/- Part 5 of 8 of the proof of the law WordsTold, no condition: one text out of several, since a claim holds 60 files at most. -/
import Derived.Test.YtfkkbjbgjmaciaaWordsToldP4
import Derived.IntWalk
import Derived.Deep.DeepCutAuto
import Derived.Deep.RegionHeld3
import Derived.Deep.QuietTactic
import Derived.BigQuiet
import Derived.Laws.AppendOwnNone
/- A box of four numbers that may be written: a struct of two fractions that a function keeps. -/
namespace Go.Proofs.Ytfkkbjbgjmaciaa
set_option linter.unusedVariables false
open Go.RowKit

def Bx4 (w : World) (g : Nat) (a b c d : Int) : Prop :=
  (w.cell? ⟨g, 0, none⟩ = some (.int .i64 a) ∧ w.cell? ⟨g, 1, none⟩ = some (.int .i64 b) ∧ w.cell? ⟨g, 2, none⟩ = some (.int .i64 c) ∧ w.cell? ⟨g, 3, none⟩ = some (.int .i64 d)) ∧
  w.frozen? ⟨g, 0, none⟩ = false ∧ w.frozen? ⟨g, 1, none⟩ = false ∧ w.frozen? ⟨g, 2, none⟩ = false ∧ w.frozen? ⟨g, 3, none⟩ = false
theorem Bx4.lt {w : World} {g : Nat} {a b c d : Int} (h : Bx4 w g a b c d) : g < w.heap.size := World.block_lt_of_cell? w _ h.1.1
theorem Bx4.kept {w w' : World} {g : Nat} {a b c d : Int} (h : Bx4 w g a b c d) (hb : Below w.heap.size w w') : Bx4 w' g a b c d := by
  obtain ⟨_, hfz, _⟩ := bcell hb
  obtain ⟨⟨h0, h1, h2, h3⟩, f0, f1, f2, f3⟩ := id h
  exact ⟨⟨cell_kept hb h0, cell_kept hb h1, cell_kept hb h2, cell_kept hb h3⟩, (hfz g 0 h.lt).trans f0, (hfz g 1 h.lt).trans f1, (hfz g 2 h.lt).trans f2, (hfz g 3 h.lt).trans f3⟩
theorem Bx4.new (w : World) (t : TypeId) (a b c d : Int) : Bx4 (w.alloc (.cells #[.int .i64 a, .int .i64 b, .int .i64 c, .int .i64 d] t)) w.heap.size a b c d := by unfold Bx4; simp [go_sem]
theorem Bx4.alloc {w : World} {g : Nat} {a b c d : Int} (h : Bx4 w g a b c d) (o : Obj) : Bx4 (w.alloc o) g a b c d := h.kept ((Below.refl _ _).alloc (Nat.le_refl _) _)
theorem Bx4.drewN {w : World} {g : Nat} {a b c d : Int} (h : Bx4 w g a b c d) (z : Nat) : Bx4 (w.drewN z) g a b c d := h
theorem Bx4.drew {w : World} {g : Nat} {a b c d : Int} (h : Bx4 w g a b c d) : Bx4 w.drew g a b c d := h
theorem Bx4.setFar {w : World} {g g2 o : Nat} {a b c d : Int} (h : Bx4 w g a b c d) (hne : g2 ≠ g) (v : Value) : Bx4 (w.setCell ⟨g2, o, none⟩ v) g a b c d := by
  obtain ⟨⟨h0, h1, h2, h3⟩, f0, f1, f2, f3⟩ := h
  unfold Bx4
  simp [go_sem, h0, h1, h2, h3, f0, f1, f2, f3, hne]
theorem Bx4.grown {w w' : World} {g : Nat} {a b c d : Int} {row : Option Nat} (h : Bx4 w g a b c d) (hg : w.grownBy w' row) (hne : some g ≠ row) : Bx4 w' g a b c d := by
  have hl := h.lt
  obtain ⟨⟨h0, h1, h2, h3⟩, f0, f1, f2, f3⟩ := h
  exact ⟨⟨(hg.cell_far ⟨g, 0, none⟩ hl hne).trans h0, (hg.cell_far ⟨g, 1, none⟩ hl hne).trans h1, (hg.cell_far ⟨g, 2, none⟩ hl hne).trans h2, (hg.cell_far ⟨g, 3, none⟩ hl hne).trans h3⟩,
    (hg.frozen_far ⟨g, 0, none⟩ hl hne).trans f0, (hg.frozen_far ⟨g, 1, none⟩ hl hne).trans f1, (hg.frozen_far ⟨g, 2, none⟩ hl hne).trans f2, (hg.frozen_far ⟨g, 3, none⟩ hl hne).trans f3⟩
theorem bx2_grown {w w' : World} {g : Nat} {x y : Int} {row : Option Nat} (h : Bx2 w g x y) (hg : w.grownBy w' row) (hne : some g ≠ row) : Bx2 w' g x y :=
  ⟨⟨(hg.cell_far ⟨g, 0, none⟩ h.lt hne).trans h.1.1, (hg.cell_far ⟨g, 1, none⟩ h.lt hne).trans h.1.2⟩, (hg.frozen_far ⟨g, 0, none⟩ h.lt hne).trans h.2.1, (hg.frozen_far ⟨g, 1, none⟩ h.lt hne).trans h.2.2⟩
/-- four stores into a box -/
def put4 (w : World) (g : Nat) (a b c d : Int) : World := (((w.setCell ⟨g, 0, none⟩ (.int .i64 a)).setCell ⟨g, 1, none⟩ (.int .i64 b)).setCell ⟨g, 2, none⟩ (.int .i64 c)).setCell ⟨g, 3, none⟩ (.int .i64 d)
theorem bx4_put {w : World} {g : Nat} {a b c d : Int} (h : Bx4 w g a b c d) (e f i j : Int) : Bx4 (put4 w g e f i j) g e f i j := by
  obtain ⟨⟨h0, h1, h2, h3⟩, f0, f1, f2, f3⟩ := h
  unfold Bx4 put4
  simp [go_sem, h0, h1, h2, h3, f0, f1, f2, f3]
theorem bx2_put {w : World} {g g2 : Nat} {x y : Int} (h : Bx2 w g x y) (hne : g2 ≠ g) (e f i j : Int) : Bx2 (put4 w g2 e f i j) g x y := (((h.setFar hne _).setFar hne _).setFar hne _).setFar hne _
theorem b4_below_put4 {B g : Nat} {w0 w : World} (h : Below B w0 w) (hg : B ≤ g) (e f i j : Int) : Below B w0 (put4 w g e f i j) :=
  (((h.setCell (p := ⟨g, 0, none⟩) hg _).setCell (p := ⟨g, 1, none⟩) hg _).setCell (p := ⟨g, 2, none⟩) hg _).setCell (p := ⟨g, 3, none⟩) hg _
theorem put4_grown (w : World) (g : Nat) (a b c d : Int) : w.grownBy (put4 w g a b c d) (some g) := by
  have s : ∀ (w : World) (i : Nat) (v : Value), w.grownBy (w.setCell ⟨g, i, none⟩ v) (some g) := fun w i v => ⟨rfl, rfl, rfl, by simp [World.setCell], fun k _ hk => Below.heap_setCell _ _ _ _ (fun e => hk (by simp [e]))⟩
  exact (((s w 0 _).trans (s _ 1 _)).trans (s _ 2 _)).trans (s _ 3 _)
end Go.Proofs.Ytfkkbjbgjmaciaa

/- The model's and the program's terms and continuants. -/
namespace Go.Proofs.Ytfkkbjbgjmaciaa
set_option linter.unusedVariables false
open Go.RowKit

theorem spec_ctGood (A : Option Addr) (n c B : Nat) (l : List Int) (w : World) (hn : l.length = n) (h : SlI w B A l) (hl : n ≤ 1048576) :
    Calls Try.prog 94 #[.slice A n c] w fun e w' => e = .returned (.bool (good l)) ∧ w = w' := by
  subst hn
  have hg : good l = (decide (l.length ≤ 10) && allB l (-30) 30) := rfl
  have Hg := Lib.hid hg
  clear hg
  by_cases h10 : l.length ≤ 10
  · have n1 : (l.length : Int) ≤ 10 := by omega
    have hd : decide (l.length ≤ 10) = true := decide_eq_true h10
    have Hd := Lib.hid hd
    clear hd
    go_enter Try.func94, Try.ntmps94
    go_wp2_with fail
    refine (spec_l1All A c B l (-30) 30 _ h (by omega)).mono ?_
    rintro e w1 ⟨rfl, rfl⟩
    clear h
    go_wp2
    go_ret
    exact ⟨ret_bool (by rw [Hg.out, Hd.out]; rfl), rfl⟩
  · have n1 : ¬ (l.length : Int) ≤ 10 := by omega
    have hd : decide (l.length ≤ 10) = false := decide_eq_false h10
    have Hd := Lib.hid hd
    clear hd h
    go_enter Try.func94, Try.ntmps94
    go_wp2
    go_ret
    exact ⟨ret_bool (by rw [Hg.out, Hd.out]; rfl), rfl⟩

set_option maxHeartbeats 800000 in
theorem spec_ctValue (A : Option Addr) (n c B : Nat) (l : List Int) (s : Int) (w : World) (hn : l.length = n) (hs : s = 1 ∨ s = -1) (h : SlI w B A l) (hsm : Small l) (hl : n ≤ 10) :
    Calls Try.prog 97 #[.slice A n c, .int .i64 s] w fun e w' => e = .returned (.int .i64 (ctv s l)) ∧ w = w' := by
  subst hn
  have hsb : -1 ≤ s ∧ s ≤ 1 := by omega
  obtain ⟨sb0, sb1⟩ := hsb
  have Hs := Lib.hid hs
  have Hsm := Lib.hid hsm
  clear hs hsm
  go_enter Try.func97, Try.ntmps97
  go_wp2
  go_loop [5, 6, 8, 9, 12] (fun b a _ _ i => ∃ k : Nat, k ≤ l.length ∧ i = .int .i64 k ∧ b = .int .i64 (ctS s (l.take k)).1 ∧ a = .int .i64 (ctS s (l.take k)).2) (fun _ _ _ _ i => l.length - (intOf i).toNat)
  case atStart => exact ⟨0, Nat.zero_le _, rfl, rfl, rfl⟩
  case round =>
    obtain ⟨k, hk, rfl, rfl, rfl⟩ := hrel
    by_cases hlt : k < l.length
    · obtain ⟨b', off, rfl, hbB, hc⟩ := h (by omega)
      have g0 := hc k hlt
      have i0 : (0 : Int) ≤ (k : Int) := by omega
      have i1 : (k : Int) < (l.length : Int) := by omega
      have hst := ctS_take s l k hlt
      obtain ⟨⟨p1, p2⟩, ⟨q1, q2⟩, r1, r2⟩ := ctS_round Hs.out l Hsm.out hl k hlt
      have sp : -26439622160671 ≤ s * (ctS s (l.take k)).1 ∧ s * (ctS s (l.take k)).1 ≤ 26439622160671 := by
        rcases Hs.out with rfl | rfl <;> omega
      obtain ⟨sp1, sp2⟩ := sp
      generalize (ctS s (l.take k)).1 = p at *
      generalize (ctS s (l.take k)).2 = q at *
      generalize l.getD k 0 = x at *
      have Hst := Lib.hid hst
      clear hst hc h
      go_wp2
      go_round
      case rel => exact ⟨k + 1, by omega, by go_num, by rw [Hst.out], by rw [Hst.out]⟩
      case measure => simp [intOf]; omega
    · obtain rfl : k = l.length := by omega
      clear h
      go_wp2
      go_ret
      exact ⟨ret_int rfl, rfl⟩

/-- what the program's IsTermList looks for -/
def termP (x : Int) : Bool := decide (x < -30 ∨ 30 < x)
theorem impl_term1 (x : Int) (w : World) : Calls Try.prog 102 #[.int .i64 x] w fun e w' => e = .returned (.bool (termP x)) ∧ w = w' := by
  go_enter Try.func102, Try.ntmps102
  go_wp2
  all_goals go_ret
  all_goals refine ⟨ret_bool ?_, rfl⟩
  all_goals (unfold termP; rw [Bool.eq_iff_iff]; simp; try omega)

def FoundT (q : Bool) (w : World) (e : Ending) (w' : World) : Prop := ∃ r : Int, e = .returned (.int .i64 r) ∧ decide (0 ≤ r) = q ∧ w = w'

def termAny (l : List Int) : Bool := l.any (termP)
theorem termAny_take (l : List Int) (k : Nat) (h : k < l.length) : termAny (l.take (k + 1)) = (termAny (l.take k) || termP (l.getD k 0)) := by
  unfold termAny
  rw [List.take_succ_eq_append_getElem h, List.any_append]
  simp [h]
theorem termAny_hit (l : List Int) (k : Nat) (h : k < l.length) (hc : termP (l.getD k 0) = true) : termAny l = true := by
  unfold termAny
  rw [List.any_eq_true]
  refine ⟨l[k], List.getElem_mem h, ?_⟩
  have e : l.getD k 0 = l[k] := by simp [h]
  rw [e] at hc
  exact hc

set_option maxHeartbeats 800000 in
theorem indexFunc_term (A : Option Addr) (c B : Nat) (l : List Int) (w : World)
    (h : SlI w B A l) (hl : l.length ≤ 1000000000) :
    Calls Try.prog 170 #[.slice A l.length c, .func (.func 102) #[] #[]] w (FoundT (termAny l) w) := by
  go_enter Try.func170, Try.ntmps170
  go_wp2
  go_loop [5, 8] (fun _ i => ∃ k : Nat, k ≤ l.length ∧ i = .int .i64 k ∧ termAny (l.take k) = false) (fun _ i => l.length - (intOf i).toNat)
  case atStart => exact ⟨0, Nat.zero_le _, rfl, by simp [termAny]⟩
  case round =>
    obtain ⟨k, hk, rfl, hno⟩ := hrel
    by_cases hlt : k < l.length
    · obtain ⟨b', off, rfl, hbB, hc⟩ := h (by omega)
      have g0 := hc k hlt
      have i0 : (0 : Int) ≤ (k : Int) := by omega
      have i1 : (k : Int) < (l.length : Int) := by omega
      have hst := termAny_take l k hlt
      have hhit := termAny_hit l k hlt
      rw [hno, Bool.false_or] at hst
      clear hc h hno
      generalize l.getD k 0 = x at *
      have Hst := Lib.hid hst
      have Hhit := Lib.hid hhit
      clear hst hhit
      go_wp2_with fail
      refine (impl_term1 x _).mono ?_
      rintro e w1 ⟨rfl, rfl⟩
      clear g0
      cases hx : termP x
      · go_wp2
        go_round
        case rel => exact ⟨k + 1, by omega, by go_num, by rw [Hst.out, hx]⟩
        case measure => simp [intOf]; omega
      · go_wp2
        go_ret
        exact ⟨k, rfl, by rw [Hhit.out hx]; simp, rfl⟩
    · obtain rfl : k = l.length := by omega
      rw [List.take_length] at hno
      have Hno := Lib.hid hno
      clear hno
      go_wp2
      go_ret
      exact ⟨-1, rfl, by rw [Hno.out]; rfl, rfl⟩

theorem containsFunc_term (A : Option Addr) (c B : Nat) (l : List Int) (w : World)
    (h : SlI w B A l) (hl : l.length ≤ 1000000000) :
    Calls Try.prog 101 #[.slice A l.length c, .func (.func 102) #[] #[]] w fun e w' => e = .returned (.bool (termAny l)) ∧ w = w' := by
  go_enter Try.func101, Try.ntmps101
  go_wp2_with fail
  refine (indexFunc_term A c B l _ h hl).mono ?_
  rintro e w1 ⟨r, rfl, hr, rfl⟩
  have Hr := Lib.hid hr
  clear hr h
  go_wp2
  all_goals go_ret
  exact ⟨ret_bool Hr.out, rfl⟩


theorem termAny_allB (l : List Int) : termAny l = !allB l (-30) 30 := by
  unfold termAny allB
  induction l with
  | nil => rfl
  | cons x r ih =>
    rw [List.any_cons, List.all_cons, ih, Bool.not_and]
    congr 1
    unfold termP
    rw [Bool.eq_iff_iff]
    simp

theorem impl_IsTermList (A : Option Addr) (n c B : Nat) (l : List Int) (w : World) (hn : l.length = n) (h : SlI w B A l) (hl : n ≤ 1048576) :
    Calls Try.prog 21 #[.slice A n c] w fun e w' => e = .returned (.bool (good l)) ∧ w = w' := by
  subst hn
  have hg : good l = (decide (l.length ≤ 10) && allB l (-30) 30) := rfl
  have Hg := Lib.hid hg
  clear hg
  by_cases h10 : l.length ≤ 10
  · have n1 : (l.length : Int) ≤ 10 := by omega
    have hd : decide (l.length ≤ 10) = true := decide_eq_true h10
    have Hd := Lib.hid hd
    clear hd
    go_enter Try.func21, Try.ntmps21
    go_wp2_with fail
    refine (containsFunc_term A c B l _ h (by omega)).mono ?_
    rintro e w1 ⟨rfl, rfl⟩
    clear h
    go_wp2
    go_ret
    exact ⟨ret_bool (by rw [Hg.out, Hd.out, termAny_allB]; simp), rfl⟩
  · have n1 : ¬ (l.length : Int) ≤ 10 := by omega
    have hd : decide (l.length ≤ 10) = false := decide_eq_false h10
    have Hd := Lib.hid hd
    clear hd h
    go_enter Try.func21, Try.ntmps21
    go_wp2
    go_ret
    exact ⟨ret_bool (by rw [Hg.out, Hd.out]; rfl), rfl⟩
end Go.Proofs.Ytfkkbjbgjmaciaa

/- The matrix of a list: the model's mxList. -/
namespace Go.Proofs.Ytfkkbjbgjmaciaa
set_option linter.unusedVariables false
open Go.RowKit

theorem retQ_mk {m : M4} {a b c d : Int} {w w' : World} (h : m = ⟨a, b, c, d⟩) (hb : Below w.heap.size w w') : RetQ m w (.returned (.agg #[.int .i64 a, .int .i64 b, .int .i64 c, .int .i64 d])) w' := by subst h; exact ⟨rfl, hb⟩
theorem mlR_some (l : List Int) (n : Nat) (hn : l.length = n) (h : 1 ≤ n) : mlR l = ⟨ctv (-1) l, -ctv (-1) (l.take (n - 1)), ctv (-1) (l.drop 1), if 1 < n then -ctv (-1) ((l.drop 1).take (n - 2)) else 0⟩ := by
  subst hn; unfold mlR; rw [if_neg (by omega)]
set_option maxRecDepth 100000 in
set_option maxHeartbeats 3200000 in
theorem spec_mxList_more (b off n c B : Nat) (l : List Int) (w : World) (hn : l.length = n) (h : SlI w B (some ⟨b, off, none⟩) l) (hB : B ≤ w.heap.size) (hsm : Small l) (hl : n ≤ 10) (h1 : 1 ≤ n) (hlc : n ≤ c) (h2 : 2 ≤ c) :
    Calls Try.prog 187 #[.slice (some ⟨b, off, none⟩) n c] w (RetQ (mlR l) w) := by
  have C1 := Lib.hid (fun w (h : SlI w B (some ⟨b, off, none⟩) l) => spec_ctValue (some ⟨b, off, none⟩) n c B l (-1) w hn (.inr rfl) h hsm hl)
  have C2 := Lib.hid (fun w (h : SlI w B (some ⟨b, off, none⟩) l) => spec_ctValue (some ⟨b, off, none⟩) (n - 1) c B (l.take (n - 1)) (-1) w (by simp; omega) (.inr rfl) (h.take _) (hsm.take _) (by omega))
  have ht : ∀ w, SlI w B (some ⟨b, off, none⟩) l → SlI w B (some ⟨b, off + 1, none⟩) (l.drop 1) := fun w h => by have := SlI.cutIf (a0 := ⟨0, 0, none⟩) h 1 (show l.length ≤ c by omega); rwa [if_neg (by omega)] at this
  have C3 := Lib.hid (fun w (h : SlI w B (some ⟨b, off, none⟩) l) => spec_ctValue (some ⟨b, off + 1, none⟩) (n - 1) (c - 1) B (l.drop 1) (-1) w (by simp; omega) (.inr rfl) (ht w h) (hsm.drop 1) (by omega))
  have C4 := Lib.hid (fun w (h : SlI w B (some ⟨b, off, none⟩) l) => spec_ctValue (some ⟨b, off + 1, none⟩) (n - 1 - 1) (c - 1) B ((l.drop 1).take (n - 2)) (-1) w (by simp; omega) (.inr rfl) ((ht w h).take _) ((hsm.drop 1).take _) (by omega))
  obtain ⟨bd1, bd2⟩ := ctv_bd9 (s := -1) (.inr rfl) (l.take (n - 1)) (hsm.take _) (by simp; omega)
  obtain ⟨bd3, bd4⟩ := ctv_bd9 (s := -1) (.inr rfl) ((l.drop 1).take (n - 2)) ((hsm.drop 1).take _) (by simp; omega)
  have HR := Lib.hid (mlR_some l n hn h1)
  generalize ctv (-1) l = v1 at *
  generalize ctv (-1) (l.take (n - 1)) = v2 at *
  generalize ctv (-1) (l.drop 1) = v3 at *
  generalize ctv (-1) ((l.drop 1).take (n - 2)) = v4 at *
  have n0 : ((n : Int) == 0) = false := by rw [beq_eq_false_iff_ne]; omega
  have n1 : (1 : Int) ≤ (n : Int) := by omega
  have n2 : (n : Int) ≤ (c : Int) := by omega
  have n3 : (0 : Int) ≤ (n : Int) - 1 := by omega
  have n4 : (n : Int) - 1 ≤ (c : Int) := by omega
  have n5 : ((n : Int) - 1).toNat = n - 1 := by omega
  have n6 : IntKind.i64.wrap ((n : Int) - 1) = (n : Int) - 1 := IntWalk.i64_in _ (by omega)
  have n7 : ¬ c = 1 := by omega
  have n10 : (n : Int) ≤ 10 := by omega
  have n11 : IntKind.i64.wrap (-v2) = -v2 := IntWalk.i64_in _ (by omega)
  have n12 : IntKind.i64.wrap (-v4) = -v4 := IntWalk.i64_in _ (by omega)
  clear bd1 bd2 bd3 bd4
  clear ht hn
  obtain ⟨R, hR⟩ : ∃ R, R = mlR l := ⟨_, rfl⟩
  rw [← hR] at HR ⊢
  clear hR
  go_enter Try.func187, Try.ntmps187
  go_upto_region 3 with fail
  obtain ⟨wa, hwa⟩ : ∃ wa, wa = w.alloc (.cells #[.int .i64 0, .int .i64 0, .int .i64 0, .int .i64 0] 53) := ⟨_, rfl⟩
  have A1 := Lib.hid (show Zb wa w.heap.size by rw [hwa]; exact Zb.new w _)
  have A3 := Lib.hid (show Below w.heap.size w wa by rw [hwa]; exact (Below.refl _ _).alloc (Nat.le_refl _) _)
  have hS := Lib.hid (h.below (A3.out.mono hB))
  have hsz : w.heap.size < wa.heap.size := A1.out.1.lt
  rw [← hwa]
  clear hwa h
  go_cut [3] (fun s3 wx => s3 = .pointer (some ⟨wa.heap.size, 0, none⟩) ∧ Bx wx wa.heap.size v1 (-v2) v3 0 ∧ Fz wx wa.heap.size ∧ Below wa.heap.size wa wx)
  case first =>
    go_region_held3 (fun w' => Below wa.heap.size wa w')
      (first | with_reducible assumption | with_reducible exact (Below.refl _ _).drew | with_reducible exact ((Below.refl _ _).alloc (Nat.le_refl _) _).drew | with_reducible exact (below_set4 (g := wa.heap.size) ((Below.refl _ _).alloc (Nat.le_refl _) _) (Nat.le_refl _)).drew | with_reducible exact below_alloc1 (by assumption) (Nat.le_refl _) _ | with_reducible exact below_set4 (by assumption) (Nat.le_refl _))
      (first
        | (go_at_call 97; (with_reducible refine (C1.out _ (hS.out.below (Below.mono (by assumption) (by have := A3.out.size; omega)))).mono ?_); rintro e w1 ⟨rfl, rfl⟩)
        | (go_at_call 97; (with_reducible refine (C2.out _ (hS.out.below (Below.mono (by assumption) (by have := A3.out.size; omega)))).mono ?_); rintro e w1 ⟨rfl, rfl⟩)
        | (go_at_call 97; (with_reducible refine (C3.out _ (hS.out.below (Below.mono (by assumption) (by have := A3.out.size; omega)))).mono ?_); rintro e w1 ⟨rfl, rfl⟩))
    all_goals go_wp2_with fail
    all_goals go_meet
    all_goals exact ⟨rfl, Bx.new wa _ v1 (-v2) v3 0, Fz.new wa _ v1 (-v2) v3 0, ((Below.refl _ _).alloc (Nat.le_refl _) _).drew⟩
  case rest =>
    obtain ⟨rfl, G1, G2, G3⟩ := hcut
    obtain ⟨gm, hgm⟩ : ∃ g, g = wa.heap.size := ⟨_, rfl⟩
    have hD := Lib.hid (A3.out.trans (G3.mono (by omega)))
    have hZ := A1.out.kept G3
    have hS2 := Lib.hid (hS.out.below (G3.mono (by have := A3.out.size; omega)))
    have yz := hZ.1.lt
    have yg := G1.lt
    have yd : w.heap.size < gm := by omega
    rw [← hgm] at G1 G2 yg ⊢
    obtain ⟨⟨z0, z1, z2, z3⟩, ⟨f0, f1, f2, f3⟩⟩ := hZ
    by_cases hn1 : 1 < n
    · have n8 : (1 : Int) ≤ (n : Int) - 1 := by omega
      have n9 : (1 : Int) < (n : Int) := by omega
      rw [if_pos hn1] at HR
      have G4 := Lib.hid G1
      have G5 := Lib.hid G2
      obtain ⟨p0, p1, p2, p3⟩ := G1
      obtain ⟨q0, q1, q2, q3⟩ := G2
      clear hgm G3 A1 A3 hS hsz
      go_wp2_with fail
      refine (C4.out _ hS2.out).mono ?_
      rintro e w1 ⟨rfl, rfl⟩
      have hE := Lib.hid (fun x0 x1 x2 x3 => retQ_mk HR.out (below_set4 (g := w.heap.size) (x0 := x0) (x1 := x1) (x2 := x2) (x3 := x3) (hD.out.setCell (p := ⟨gm, 3, none⟩) (Nat.le_of_lt yd) (.int .i64 (-v4))) (Nat.le_refl _)))
      clear C1 C2 C3 C4 HR
      go_wp2
      refine bodyPost_ret (v := .agg #[.int .i64 v1, .int .i64 (-v2), .int .i64 v3, .int .i64 (-v4)]) ?hr rfl ?hR
      case hr => simp [results, Try.results187, go_sem, z0, z1, z2, z3, Nat.ne_of_lt yd, Nat.ne_of_gt yd]
      case hR => exact hE.out _ _ _ _
    · have n9 : ¬ (1 : Int) < (n : Int) := by omega
      rw [if_neg hn1] at HR
      obtain ⟨p0, p1, p2, p3⟩ := G1
      obtain ⟨q0, q1, q2, q3⟩ := G2
      have hE := Lib.hid (fun x0 x1 x2 x3 => retQ_mk HR.out (below_set4 (g := w.heap.size) (x0 := x0) (x1 := x1) (x2 := x2) (x3 := x3) hD.out (Nat.le_refl _)))
      clear C1 C2 C3 HR hgm G3 A1 A3 hS hsz
      go_wp2
      refine bodyPost_ret (v := .agg #[.int .i64 v1, .int .i64 (-v2), .int .i64 v3, .int .i64 0]) ?hr rfl ?hR
      case hr => simp [results, Try.results187, go_sem, z0, z1, z2, z3]
      case hR => exact hE.out _ _ _ _
set_option maxRecDepth 100000 in
set_option maxHeartbeats 3200000 in
theorem spec_mxList_one (b off n B : Nat) (l : List Int) (w : World) (hn : l.length = n) (h : SlI w B (some ⟨b, off, none⟩) l) (hB : B ≤ w.heap.size) (hsm : Small l) (hl : n ≤ 10) (h1 : 1 ≤ n) (hlc : n ≤ 1) :
    Calls Try.prog 187 #[.slice (some ⟨b, off, none⟩) n 1] w (RetQ (mlR l) w) := by
  have C1 := Lib.hid (fun w (h : SlI w B (some ⟨b, off, none⟩) l) => spec_ctValue (some ⟨b, off, none⟩) n 1 B l (-1) w hn (.inr rfl) h hsm hl)
  have C2 := Lib.hid (fun w (h : SlI w B (some ⟨b, off, none⟩) l) => spec_ctValue (some ⟨b, off, none⟩) 0 1 B (l.take (n - 1)) (-1) w (by simp; omega) (.inr rfl) (h.take _) (hsm.take _) (by omega))
  have ht : ∀ w, SlI w B (some ⟨b, off, none⟩) l → SlI w B (some ⟨b, off, none⟩) (l.drop 1) := fun w h => by rw [List.drop_of_length_le (by omega)]; exact SlI.nil_
  have C3 := Lib.hid (fun w (h : SlI w B (some ⟨b, off, none⟩) l) => spec_ctValue (some ⟨b, off, none⟩) 0 0 B (l.drop 1) (-1) w (by simp; omega) (.inr rfl) (ht w h) (hsm.drop 1) (by omega))
  obtain ⟨bd1, bd2⟩ := ctv_bd9 (s := -1) (.inr rfl) (l.take (n - 1)) (hsm.take _) (by simp; omega)
  obtain ⟨bd3, bd4⟩ := ctv_bd9 (s := -1) (.inr rfl) ((l.drop 1).take (n - 2)) ((hsm.drop 1).take _) (by simp; omega)
  have HR := Lib.hid (mlR_some l n hn h1)
  generalize ctv (-1) l = v1 at *
  generalize ctv (-1) (l.take (n - 1)) = v2 at *
  generalize ctv (-1) (l.drop 1) = v3 at *
  generalize ctv (-1) ((l.drop 1).take (n - 2)) = v4 at *
  have n0 : ((n : Int) == 0) = false := by rw [beq_eq_false_iff_ne]; omega
  have n1 : (1 : Int) ≤ (n : Int) := by omega
  have n2 : (n : Int) ≤ (1 : Int) := by omega
  have n3 : (0 : Int) ≤ (n : Int) - 1 := by omega
  have n4 : (n : Int) - 1 ≤ (1 : Int) := by omega
  have n5 : ((n : Int) - 1).toNat = n - 1 := by omega
  have n6 : IntKind.i64.wrap ((n : Int) - 1) = (n : Int) - 1 := IntWalk.i64_in _ (by omega)
  have n10 : (n : Int) ≤ 10 := by omega
  have n11 : IntKind.i64.wrap (-v2) = -v2 := IntWalk.i64_in _ (by omega)
  have n12 : IntKind.i64.wrap (-v4) = -v4 := IntWalk.i64_in _ (by omega)
  clear bd1 bd2 bd3 bd4
  clear ht hn
  obtain ⟨R, hR⟩ : ∃ R, R = mlR l := ⟨_, rfl⟩
  rw [← hR] at HR ⊢
  clear hR
  go_enter Try.func187, Try.ntmps187
  go_upto_region 3 with fail
  obtain ⟨wa, hwa⟩ : ∃ wa, wa = w.alloc (.cells #[.int .i64 0, .int .i64 0, .int .i64 0, .int .i64 0] 53) := ⟨_, rfl⟩
  have A1 := Lib.hid (show Zb wa w.heap.size by rw [hwa]; exact Zb.new w _)
  have A3 := Lib.hid (show Below w.heap.size w wa by rw [hwa]; exact (Below.refl _ _).alloc (Nat.le_refl _) _)
  have hS := Lib.hid (h.below (A3.out.mono hB))
  have hsz : w.heap.size < wa.heap.size := A1.out.1.lt
  rw [← hwa]
  clear hwa h
  go_cut [3] (fun s3 wx => s3 = .pointer (some ⟨wa.heap.size, 0, none⟩) ∧ Bx wx wa.heap.size v1 (-v2) v3 0 ∧ Fz wx wa.heap.size ∧ Below wa.heap.size wa wx)
  case first =>
    go_region_held3 (fun w' => Below wa.heap.size wa w')
      (first | with_reducible assumption | with_reducible exact (Below.refl _ _).drew | with_reducible exact ((Below.refl _ _).alloc (Nat.le_refl _) _).drew | with_reducible exact (below_set4 (g := wa.heap.size) ((Below.refl _ _).alloc (Nat.le_refl _) _) (Nat.le_refl _)).drew | with_reducible exact below_alloc1 (by assumption) (Nat.le_refl _) _ | with_reducible exact below_set4 (by assumption) (Nat.le_refl _))
      (first
        | (go_at_call 97; (with_reducible refine (C1.out _ (hS.out.below (Below.mono (by assumption) (by have := A3.out.size; omega)))).mono ?_); rintro e w1 ⟨rfl, rfl⟩)
        | (go_at_call 97; (with_reducible refine (C2.out _ (hS.out.below (Below.mono (by assumption) (by have := A3.out.size; omega)))).mono ?_); rintro e w1 ⟨rfl, rfl⟩)
        | (go_at_call 97; (with_reducible refine (C3.out _ (hS.out.below (Below.mono (by assumption) (by have := A3.out.size; omega)))).mono ?_); rintro e w1 ⟨rfl, rfl⟩))
    all_goals go_wp2_with fail
    all_goals go_meet
    all_goals exact ⟨rfl, Bx.new wa _ v1 (-v2) v3 0, Fz.new wa _ v1 (-v2) v3 0, ((Below.refl _ _).alloc (Nat.le_refl _) _).drew⟩
  case rest =>
    obtain ⟨rfl, G1, G2, G3⟩ := hcut
    obtain ⟨gm, hgm⟩ : ∃ g, g = wa.heap.size := ⟨_, rfl⟩
    have hD := Lib.hid (A3.out.trans (G3.mono (by omega)))
    have hZ := A1.out.kept G3
    have hS2 := Lib.hid (hS.out.below (G3.mono (by have := A3.out.size; omega)))
    have yz := hZ.1.lt
    have yg := G1.lt
    have yd : w.heap.size < gm := by omega
    rw [← hgm] at G1 G2 yg ⊢
    obtain ⟨⟨z0, z1, z2, z3⟩, ⟨f0, f1, f2, f3⟩⟩ := hZ
    have hn1 : ¬ 1 < n := by omega
    have n9 : ¬ (1 : Int) < (n : Int) := by omega
    rw [if_neg hn1] at HR
    obtain ⟨p0, p1, p2, p3⟩ := G1
    obtain ⟨q0, q1, q2, q3⟩ := G2
    have hE := Lib.hid (fun x0 x1 x2 x3 => retQ_mk HR.out (below_set4 (g := w.heap.size) (x0 := x0) (x1 := x1) (x2 := x2) (x3 := x3) hD.out (Nat.le_refl _)))
    clear C1 C2 C3 HR hgm G3 A1 A3 hS hsz
    go_wp2
    refine bodyPost_ret (v := .agg #[.int .i64 v1, .int .i64 (-v2), .int .i64 v3, .int .i64 0]) ?hr rfl ?hR
    case hr => simp [results, Try.results187, go_sem, z0, z1, z2, z3]
    case hR => exact hE.out _ _ _ _
/-- the model's matrix of a list -/
theorem spec_mxList (A : Option Addr) (n c B : Nat) (l : List Int) (w : World) (hn : l.length = n) (h : SlI w B A l) (hB : B ≤ w.heap.size) (hsm : Small l) (hl : n ≤ 10) (hlc : n ≤ c) :
    Calls Try.prog 187 #[.slice A n c] w (RetQ (mlR l) w) := by
  by_cases h0 : n = 0
  · subst h0
    have hR : mlR l = ⟨1, 0, 0, 1⟩ := if_pos hn
    have HR := Lib.hid hR
    generalize mlR l = R at *
    clear hR h hsm hn
    go_enter Try.func187, Try.ntmps187
    go_wp2_with fail
    refine (spec_mxOne _).mono ?_
    rintro e w1 ⟨rfl, hb1⟩
    obtain ⟨hc1, hf1, hz1⟩ := bcell hb1
    have hy0 : w.heap.size < w1.heap.size := by simp at hz1; omega
    have hd := ((Below.refl w.heap.size w).alloc (Nat.le_refl _) _).trans (hb1.mono (by simp))
    clear hb1
    go_wp2
    refine bodyPost_ret (v := .agg #[.int .i64 1, .int .i64 0, .int .i64 0, .int .i64 1]) ?hr rfl ?hR
    case hr => simp [results, Try.results187, go_sem, hc1, hf1, hy0]
    case hR => exact retQ_mk HR.out (below_set4 hd (Nat.le_refl _))
  · obtain ⟨b, off, rfl, hbB, hcl⟩ := h (by omega)
    by_cases hc1 : c = 1
    · subst hc1
      exact spec_mxList_one b off n B l w hn h hB hsm hl (by omega) hlc
    · exact spec_mxList_more b off n c B l w hn h hB hsm hl (by omega) hlc (by omega)
end Go.Proofs.Ytfkkbjbgjmaciaa

/- squareOfTerms; MatrixOfList and ClosesUp: both contracts, and the laws' walks. -/
namespace Go.Proofs.Ytfkkbjbgjmaciaa
set_option linter.unusedVariables false
open Go.RowKit

/-- the first squares, zeros behind them -/
def sqF (l : List Int) (k : Nat) : List M4 := (l.take k).map sqT ++ List.replicate (l.length - k) M4.zero
theorem sqF_zero (l : List Int) : sqF l 0 = List.replicate l.length M4.zero := by simp [sqF]
theorem sqF_all (l : List Int) : sqF l l.length = l.map sqT := by simp [sqF]
theorem sqF_set (l : List Int) (k : Nat) (h : k < l.length) : (sqF l k).set k (sqT (l.getD k 0)) = sqF l (k + 1) := by
  unfold sqF
  have e : l.length - k = (l.length - (k + 1)) + 1 := by omega
  rw [e, List.replicate_succ, List.set_append_right _ _ (by simp; omega)]
  have e2 : k - (List.map sqT (List.take k l)).length = 0 := by simp; omega
  rw [e2, List.set_cons_zero, List.take_succ_eq_append_getElem h, List.map_append, List.append_assoc]
  congr 1
  simp [h]

theorem below_set4x {B g a : Nat} {w0 w : World} (h : Below B w0 w) (hg : B ≤ g) (x0 x1 x2 x3 : Value) : Below B w0 ((((w.setCell ⟨g, a, none⟩ x0).setCell ⟨g, a + 1, none⟩ x1).setCell ⟨g, a + 2, none⟩ x2).setCell ⟨g, a + 3, none⟩ x3) :=
  (((h.setCell (p := ⟨g, a, none⟩) hg _).setCell (p := ⟨g, a + 1, none⟩) hg _).setCell (p := ⟨g, a + 2, none⟩) hg _).setCell (p := ⟨g, a + 3, none⟩) hg _
theorem zb_set4x {g a z : Nat} {w : World} (h : Zb w z) (hne : z ≠ g) (x0 x1 x2 x3 : Value) : Zb ((((w.setCell ⟨g, a, none⟩ x0).setCell ⟨g, a + 1, none⟩ x1).setCell ⟨g, a + 2, none⟩ x2).setCell ⟨g, a + 3, none⟩ x3) z := by
  obtain ⟨⟨z0, z1, z2, z3⟩, ⟨f0, f1, f2, f3⟩⟩ := h
  unfold Zb Bx Fz
  simp [go_sem, z0, z1, z2, z3, f0, f1, f2, f3, hne]

end Go.Proofs.Ytfkkbjbgjmaciaa

/- MatrixOfList and ClosesUp: both contracts, and the laws' walks. -/
namespace Go.Proofs.Ytfkkbjbgjmaciaa
set_option linter.unusedVariables false
open Go.RowKit

theorem spec_MatrixOfList_no (A : Option Addr) (c B : Nat) (l : List Int) (w : World) (hg : good l = false) (h : SlI w B A l) (hB : B ≤ w.heap.size) (hl : l.length ≤ 1048576) :
    Calls Try.prog 178 #[.slice A l.length c] w fun e w' => e = .returned (.tuple #[.agg #[.int .i64 0, .int .i64 0, .int .i64 0, .int .i64 0], .bool false]) ∧ Below w.heap.size w w' := by
  have hc := spec_ctGood A _ c B l _ rfl (h.below ((Below.refl B w).alloc hB (.cells #[.int .i64 0, .int .i64 0, .int .i64 0, .int .i64 0] 53))) hl
  rw [hg] at hc
  have Hc := Lib.hid hc
  clear hc hg h
  go_enter Try.func178, Try.ntmps178
  go_wp2_with fail
  refine Hc.out.mono ?_
  rintro e w1 ⟨rfl, rfl⟩
  have hd : Below w.heap.size w (w.alloc (.cells #[.int .i64 0, .int .i64 0, .int .i64 0, .int .i64 0] 53)) := (Below.refl _ _).alloc (Nat.le_refl _) _
  clear Hc
  go_wp2
  exact bodyPost_ret (v := .tuple #[.agg #[.int .i64 0, .int .i64 0, .int .i64 0, .int .i64 0], .bool false]) (by simp [results, Try.results178, go_sem]) rfl ⟨rfl, by first | exact hd | exact below_set4 hd (Nat.le_refl _)⟩
set_option maxHeartbeats 800000 in
theorem spec_MatrixOfList_yes (A : Option Addr) (c B : Nat) (l : List Int) (w : World) (hg : good l = true) (h : SlI w B A l) (hB : B ≤ w.heap.size) (hl : l.length ≤ 1048576) (hlc : l.length ≤ c) :
    Calls Try.prog 178 #[.slice A l.length c] w (RetMx (mlR l) w) := by
  have hs := h.below ((Below.refl B w).alloc hB (.cells #[.int .i64 0, .int .i64 0, .int .i64 0, .int .i64 0] 53))
  have hc := spec_ctGood A _ c B l _ rfl hs hl
  rw [hg] at hc
  have Hc := Lib.hid hc
  have Hl := Lib.hid (spec_mxList A _ c B l _ rfl (hs) (by simp; omega) (good_small hg) (good_iff.1 hg).1 hlc)
  generalize mlR l = R at *
  obtain ⟨okm, hok⟩ : ∃ x, R.ok = x := ⟨_, rfl⟩
  obtain ⟨F, hF⟩ : ∃ x, R.fit = x := ⟨_, rfl⟩
  have Hm := Lib.hid (fun w => spec_mxIf_as R F okm hF hok w)
  have HE := Lib.hid (fun w' (hb : Below w.heap.size w w') => retMx_any (m := R) hb)
  rw [hF, hok] at HE
  clear hF hok hc hg h hs hl hlc
  go_enter Try.func178, Try.ntmps178
  go_wp2_with fail
  refine Hc.out.mono ?_
  rintro e w1 ⟨rfl, rfl⟩
  go_wp2_with fail
  refine Hl.out.mono ?_
  rintro e w2 ⟨rfl, hb2⟩
  have R0 := (Zb.new w 53).kept hb2
  have hd := ((Below.refl w.heap.size w).alloc (Nat.le_refl _) _).trans (hb2.mono (by simp))
  clear hb2 Hc Hl
  have yz := R0.1.lt
  go_wp2_with fail
  refine (Hm.out _).mono ?_
  rintro e w3 ⟨rfl, hb3⟩
  obtain ⟨⟨z0, z1, z2, z3⟩, ⟨f0, f1, f2, f3⟩⟩ := R0.kept hb3
  replace hd := below_kept hd (Nat.le_refl _) hb3
  clear hb3 Hm
  have hE := Lib.hid (below_set4 (g := w.heap.size) (x0 := .int .i64 F.a) (x1 := .int .i64 F.b) (x2 := .int .i64 F.c) (x3 := .int .i64 F.d) hd (Nat.le_refl _))
  go_wp2
  refine bodyPost_ret (v := .tuple #[.agg #[.int .i64 F.a, .int .i64 F.b, .int .i64 F.c, .int .i64 F.d], .bool okm]) ?hr rfl ?hR
  case hr => simp [results, Try.results178, go_sem, z0, z1, z2, z3]
  case hR => exact HE.out _ hE.out
end Go.Proofs.Ytfkkbjbgjmaciaa

/- A quiddity backwards is a quiddity: any ear may be cut first. Plain mathematics. -/
namespace Go.Proofs.Ytfkkbjbgjmaciaa
set_option linter.unusedVariables false

/-- f ears can be cut off, and [1, 1, 1] is left -/
def red : Nat → List Int → Bool
  | 0, l => decide (l = [1, 1, 1])
  | f + 1, l => !decide (at1 l l.length < 0) && red f (cutL l (at1 l l.length).toNat)
theorem ofI_red (f : Nat) : ∀ l cs out, (ofI f l cs out).2 = red f l := by
  induction f with
  | zero =>
    intro l cs out
    unfold ofI red
    by_cases h : l = [1, 1, 1] <;> simp [h]
  | succ f ih =>
    intro l cs out
    unfold ofI red
    by_cases h : at1 l l.length < 0
    · rw [if_pos h, decide_eq_true h]; rfl
    · rw [if_neg h, decide_eq_false h, ih]; rfl
theorem red_low {f : Nat} {l : List Int} (h : red f l = true) (hl : l.length = f + 3) (j : Nat) (hj : j < l.length) : 1 ≤ l.getD j 0 := by
  rcases Int.lt_or_le (l.getD j 0) 1 with hlt | hge
  · have := ofI_bad f l [] [] hl ⟨j, hj, .inl hlt⟩
    have h2 := ofI_red f l [] []
    rw [this, h] at h2
    cases h2
  · exact hge
theorem isQ_red {q : List Int} : isQ q = (couldB q && red (q.length - 3) q) := by
  unfold isQ triOf
  cases couldB q
  · rfl
  · rw [if_pos rfl, ofI_red]; rfl

/-- a place in the list before the ear at k was cut off -/
def upL (k j : Nat) : Nat := if j < k then j else j + 1
/-- what a place gives for the ear at k -/
def preL (m k : Nat) : Nat := if k = 0 then m - 1 else k - 1
def sucL (m k : Nat) : Nat := if k + 1 = m then 0 else k + 1
def nbL (m k p : Nat) : Int := (if p = preL m k then 1 else 0) + (if p = sucL m k then 1 else 0)
theorem up_eq (k j : Nat) : (j < k ∧ upL k j = j) ∨ (k ≤ j ∧ upL k j = j + 1) := by
  unfold upL
  by_cases h : j < k
  · rw [if_pos h]; omega
  · rw [if_neg h]; omega
theorem pre_eq (m k : Nat) : (k = 0 ∧ preL m k = m - 1) ∨ (1 ≤ k ∧ preL m k = k - 1) := by
  unfold preL
  by_cases h : k = 0
  · rw [if_pos h]; omega
  · rw [if_neg h]; omega
theorem suc_eq (m k : Nat) : (k + 1 = m ∧ sucL m k = 0) ∨ (k + 1 ≠ m ∧ sucL m k = k + 1) := by
  unfold sucL
  by_cases h : k + 1 = m
  · rw [if_pos h]; omega
  · rw [if_neg h]; omega
theorem nb_same {m k p m' k' p' : Nat} (h1 : p = preL m k ↔ p' = preL m' k') (h2 : p = sucL m k ↔ p' = sucL m' k') : nbL m k p = nbL m' k' p' := by
  unfold nbL
  simp only [h1, h2]
theorem nb_swap {m k p m' k' p' : Nat} (h1 : p = preL m k ↔ p' = sucL m' k') (h2 : p = sucL m k ↔ p' = preL m' k') : nbL m k p = nbL m' k' p' := by
  unfold nbL
  simp only [h1, h2]
  omega
theorem nb_none {m k p : Nat} (h1 : p ≠ preL m k) (h2 : p ≠ sucL m k) : nbL m k p = 0 := by
  unfold nbL
  rw [if_neg h1, if_neg h2]; rfl
theorem nb_some {m k p : Nat} (h : p = preL m k ∨ p = sucL m k) : 1 ≤ nbL m k p := by
  unfold nbL
  rcases h with h | h
  · rw [if_pos h]; split <;> omega
  · rw [if_pos h]; split <;> omega
theorem cutL_at (l : List Int) (k j : Nat) (hm : 4 ≤ l.length) (hk : k < l.length) (hj : j + 1 < l.length) : (cutL l k).getD j 0 = l.getD (upL k j) 0 - nbL l.length k (upL k j) := by
  have e1 : (k + l.length - 1) % l.length = preL l.length k := by
    unfold preL
    split
    · subst_vars; rw [Nat.zero_add]; exact Nat.mod_eq_of_lt (by omega)
    · rw [show k + l.length - 1 = (k - 1) + l.length by omega, Nat.add_mod_right]; exact Nat.mod_eq_of_lt (by omega)
  have e2 : (k + 1) % l.length = sucL l.length k := by
    unfold sucL
    split
    · rename_i h; rw [h, Nat.mod_self]
    · exact Nat.mod_eq_of_lt (by omega)
  have hp : ∀ p, p < l.length → (dec2 l k).getD p 0 = l.getD p 0 - nbL l.length k p := by
    intro p hp
    unfold dec2 nbL
    rw [decr_get _ _ _ (by rw [decr_length]; exact hp), decr_get _ _ _ hp, e1, e2]
    generalize preL l.length k = a
    generalize sucL l.length k = b
    generalize l.getD p 0 = x
    by_cases ha : a = p <;> by_cases hb : b = p <;> simp [ha, hb, eq_comm] <;> omega
  unfold cutL upL
  rw [erase_get]
  split
  · exact hp j (by omega)
  · exact hp (j + 1) (by omega)
theorem ext_getD {l r : List Int} (h : l.length = r.length) (hg : ∀ j, j < l.length → l.getD j 0 = r.getD j 0) : l = r := by
  apply List.ext_getElem h
  intro j h1 h2
  have := hg j h1
  simpa [h1, h2] using this

theorem cut_comm {l : List Int} {i k : Nat} (hm : 5 ≤ l.length) (hik : i + 1 < k) (hk : k < l.length) (hn : ¬(i = 0 ∧ k + 1 = l.length)) : cutL (cutL l i) (k - 1) = cutL (cutL l k) i := by
  have l1 := cutL_length l i (by omega)
  have l2 := cutL_length l k hk
  have l3 := cutL_length (cutL l i) (k - 1) (by omega)
  have l4 := cutL_length (cutL l k) i (by omega)
  refine ext_getD (by omega) fun j hj => ?_
  rw [cutL_at (cutL l i) (k - 1) j (by omega) (by omega) (by omega), cutL_at (cutL l k) i j (by omega) (by omega) (by omega)]
  have v1 := up_eq (k - 1) j
  have v2 := up_eq i j
  have v3 := up_eq i (upL (k - 1) j)
  have v4 := up_eq k (upL i j)
  have u1 : upL (k - 1) j + 1 < l.length := by omega
  have u2 : upL i j + 1 < l.length := by omega
  rw [cutL_at l i _ (by omega) (by omega) u1, cutL_at l k _ (by omega) (by omega) u2]
  have e : upL i (upL (k - 1) j) = upL k (upL i j) := by omega
  rw [e, l1, l2]
  rw [e] at v3
  generalize upL k (upL i j) = p at *
  generalize upL (k - 1) j = x at *
  generalize upL i j = y at *
  have p1 := pre_eq l.length i
  have p2 := pre_eq (l.length - 1) i
  have p3 := pre_eq (l.length - 1) (k - 1)
  have p4 := pre_eq l.length k
  have s1 := suc_eq l.length i
  have s2 := suc_eq (l.length - 1) i
  have s3 := suc_eq (l.length - 1) (k - 1)
  have s4 := suc_eq l.length k
  clear l1 l2 l3 l4 hj e u1 u2
  have a1 : nbL l.length i p = nbL (l.length - 1) i y := nb_same (by omega) (by omega)
  have a2 : nbL (l.length - 1) (k - 1) x = nbL l.length k p := nb_same (by omega) (by omega)
  omega
/-- the ear at i is an ear still, behind the cut at k; what is beside an ear is none -/
theorem ear_after {l : List Int} {i k : Nat} (hm : 5 ≤ l.length) (hik : i + 1 < k) (hk : k < l.length) (hn : ¬(i = 0 ∧ k + 1 = l.length)) (hi1 : l.getD i 0 = 1) (hk1 : l.getD k 0 = 1) : (cutL l k).getD i 0 = 1 ∧ (cutL l i).getD (k - 1) 0 = 1 := by
  constructor
  · rw [cutL_at l k i (by omega) hk (by omega)]
    have e : upL k i = i := by have := up_eq k i; omega
    have a : nbL l.length k i = 0 := nb_none (by have := pre_eq l.length k; omega) (by have := suc_eq l.length k; omega)
    rw [e, a, hi1]; rfl
  · rw [cutL_at l i (k - 1) (by omega) (by omega) (by omega)]
    have e : upL i (k - 1) = k := by have := up_eq i (k - 1); omega
    have a : nbL l.length i k = 0 := nb_none (by have := pre_eq l.length i; omega) (by have := suc_eq l.length i; omega)
    rw [e, a, hk1]; rfl
theorem beside_low {l : List Int} {i k : Nat} (hm : 4 ≤ l.length) (hik : i < k) (hk : k < l.length) (hn : k = i + 1 ∨ (i = 0 ∧ k + 1 = l.length)) (hi1 : l.getD i 0 = 1) (hk1 : l.getD k 0 = 1) : (cutL l k).getD i 0 ≤ 0 ∧ (cutL l i).getD (k - 1) 0 ≤ 0 := by
  constructor
  · rw [cutL_at l k i (by omega) hk (by omega)]
    have e : upL k i = i := by have := up_eq k i; omega
    have a : 1 ≤ nbL l.length k i := nb_some (by have := pre_eq l.length k; have := suc_eq l.length k; omega)
    rw [e, hi1]; omega
  · rw [cutL_at l i (k - 1) (by omega) (by omega) (by omega)]
    have e : upL i (k - 1) = k := by have := up_eq i (k - 1); omega
    have a : 1 ≤ nbL l.length i k := nb_some (by have := pre_eq l.length i; have := suc_eq l.length i; omega)
    rw [e, hk1]; omega
def AnyEar (f : Nat) : Prop := ∀ l : List Int, l.length = f + 4 → ∀ i k, i < l.length → k < l.length → l.getD i 0 = 1 → l.getD k 0 = 1 → red f (cutL l i) = true → red f (cutL l k) = true
theorem at1_some {l : List Int} {i : Nat} (hi : i < l.length) (h : l.getD i 0 = 1) : ¬at1 l l.length < 0 := by
  intro hlt
  by_cases h0 : at1 l i < 0
  · have := at1_hit l i l.length h0 h hi
    omega
  · have := at1_stay l i (l.length - i) (by omega)
    rw [show i + (l.length - i) = l.length by omega] at this
    omega
theorem red_ear {f : Nat} (S : AnyEar f) {l : List Int} (hl : l.length = f + 4) {i : Nat} (hi : i < l.length) (h1 : l.getD i 0 = 1) (h : red f (cutL l i) = true) : red (f + 1) l = true := by
  have hs := at1_some hi h1
  have h2 := at1_lt l l.length
  unfold red
  rw [decide_eq_false hs]
  simpa using S l hl i (at1 l l.length).toNat hi (by omega) h1 (at1_one l l.length (by omega)) h
theorem red_cut {f : Nat} (S : AnyEar f) {l : List Int} (hl : l.length = f + 4) {i : Nat} (hi : i < l.length) (h1 : l.getD i 0 = 1) (h : red (f + 1) l = true) : red f (cutL l i) = true := by
  have hs := at1_some hi h1
  have h2 := at1_lt l l.length
  unfold red at h
  rw [decide_eq_false hs] at h
  exact S l hl (at1 l l.length).toNat i (by omega) hi (at1_one l l.length (by omega)) h1 (by simpa using h)
theorem anyEar_zero : AnyEar 0 := by
  intro l hl i k hi hk h1 h2 h
  by_cases e : i = k
  · subst e; exact h
  have hL := cutL_length l i hi
  have hK := cutL_length l k hk
  have hlow := fun j hj => red_low h (by omega) j hj
  have hall : cutL l i = [1, 1, 1] := by unfold red at h; simpa using h
  unfold red
  have hg : ∀ j, j < 3 → (cutL l i).getD j 0 = 1 := by
    intro j hj
    rw [hall]
    have : j = 0 ∨ j = 1 ∨ j = 2 := by omega
    rcases this with rfl | rfl | rfl <;> rfl
  have hopp : k = i + 2 ∨ i = k + 2 := by
    by_cases hlt : i < k
    · by_cases hn : k = i + 1 ∨ (i = 0 ∧ k + 1 = l.length)
      · have := (beside_low (by omega) hlt hk hn h1 h2).2
        have := hg (k - 1) (by omega)
        omega
      · omega
    · by_cases hn : i = k + 1 ∨ (k = 0 ∧ i + 1 = l.length)
      · have := (beside_low (by omega) (show k < i by omega) hi hn h2 h1).1
        have := hg k (by omega)
        omega
      · omega
  have : cutL l k = [1, 1, 1] := by
    refine ext_getD (by rw [hK, hl]; rfl) fun j hj => ?_
    rw [hK, hl] at hj
    have hone : ([1, 1, 1] : List Int).getD j 0 = 1 := by
      have : j = 0 ∨ j = 1 ∨ j = 2 := by omega
      rcases this with rfl | rfl | rfl <;> rfl
    rw [hone, cutL_at l k j (by omega) hk (by omega)]
    have g0 := hg 0 (by omega)
    have g1 := hg 1 (by omega)
    have g2 := hg 2 (by omega)
    rw [cutL_at l i _ (by omega) hi (by omega)] at g0 g1 g2
    rw [hl] at g0 g1 g2 ⊢
    unfold upL nbL preL sucL at *
    have hi4 : i = 0 ∨ i = 1 ∨ i = 2 ∨ i = 3 := by omega
    have hj3 : j = 0 ∨ j = 1 ∨ j = 2 := by omega
    rcases hopp with hopp | hopp
    · subst hopp
      rcases hi4 with rfl | rfl | rfl | rfl <;> rcases hj3 with rfl | rfl | rfl <;> simp at * <;> omega
    · have hk4 : k = 0 ∨ k = 1 := by omega
      subst hopp
      rcases hk4 with rfl | rfl <;> rcases hj3 with rfl | rfl | rfl <;> simp at * <;> omega
  simpa using this
theorem anyEar (f : Nat) : AnyEar f := by
  induction f with
  | zero => exact anyEar_zero
  | succ f ih =>
    intro l hl i k hi hk h1 h2 h
    have hL := cutL_length l i hi
    have hK := cutL_length l k hk
    by_cases e : i = k
    · subst e; exact h
    have hlow := fun j hj => red_low h (by omega) j hj
    by_cases hlt : i < k
    · by_cases hn : k = i + 1 ∨ (i = 0 ∧ k + 1 = l.length)
      · have h3 := (beside_low (by omega) hlt hk hn h1 h2).2
        have h4 := hlow (k - 1) (by omega)
        omega
      · obtain ⟨e1, e2⟩ := ear_after (by omega) (by omega) hk (by omega) h1 h2
        have hc := cut_comm (by omega) (show i + 1 < k by omega) hk (by omega)
        have h3 := red_cut ih (by omega) (i := k - 1) (by omega) e2 h
        rw [hc] at h3
        exact red_ear ih (by omega) (i := i) (by omega) e1 h3
    · by_cases hn : i = k + 1 ∨ (k = 0 ∧ i + 1 = l.length)
      · have h3 := (beside_low (by omega) (show k < i by omega) hi hn h2 h1).1
        have h4 := hlow k (by omega)
        omega
      · obtain ⟨e1, e2⟩ := ear_after (by omega) (show k + 1 < i by omega) hi (by omega) h2 h1
        have hc := cut_comm (by omega) (show k + 1 < i by omega) hi (by omega)
        have h3 := red_cut ih (by omega) (i := k) (by omega) e1 h
        rw [← hc] at h3
        exact red_ear ih (by omega) (i := i - 1) (by omega) e2 h3

theorem rev_getD (l : List Int) (j : Nat) (hj : j < l.length) : l.reverse.getD j 0 = l.getD (l.length - 1 - j) 0 := by
  have h2 : l.length - 1 - j < l.length := by omega
  simp [hj, h2, List.getElem_reverse]
theorem cut_rev {l : List Int} {k : Nat} (hm : 4 ≤ l.length) (hk : k < l.length) : cutL l.reverse (l.length - 1 - k) = (cutL l k).reverse := by
  have hr : l.reverse.length = l.length := List.length_reverse
  have hL := cutL_length l k hk
  have hR := cutL_length l.reverse (l.length - 1 - k) (by omega)
  refine ext_getD (by rw [List.length_reverse]; omega) fun j hj => ?_
  rw [rev_getD _ _ (by omega), cutL_at l.reverse _ j (by omega) (by omega) (by omega), cutL_at l k _ hm hk (by omega), hL, hr]
  have v1 := up_eq (l.length - 1 - k) j
  have v2 := up_eq k (l.length - 1 - 1 - j)
  rw [List.length_reverse] at hR hr
  have hu : upL (l.length - 1 - k) j < l.length := by omega
  rw [rev_getD _ _ hu]
  have e : l.length - 1 - upL (l.length - 1 - k) j = upL k (l.length - 1 - 1 - j) := by omega
  have p1 := pre_eq l.length k
  have p2 := pre_eq l.length (l.length - 1 - k)
  have s1 := suc_eq l.length k
  have s2 := suc_eq l.length (l.length - 1 - k)
  have a : nbL l.length (l.length - 1 - k) (upL (l.length - 1 - k) j) = nbL l.length k (upL k (l.length - 1 - 1 - j)) := nb_swap (by omega) (by omega)
  rw [e, a]
theorem red_rev (f : Nat) : ∀ l : List Int, l.length = f + 3 → red f l = true → red f l.reverse = true := by
  induction f with
  | zero =>
    intro l _ h
    have : l = [1, 1, 1] := by unfold red at h; simpa using h
    subst this
    rfl
  | succ f ih =>
    intro l hl h
    unfold red at h
    rw [Bool.and_eq_true] at h
    obtain ⟨h0, h1⟩ := h
    have h2 := at1_lt l l.length
    have hs : ¬at1 l l.length < 0 := by simpa using h0
    have h3 := at1_one l l.length (by omega)
    generalize hk : (at1 l l.length).toNat = k at *
    have hkl : k < l.length := by omega
    have h4 := ih _ (by rw [cutL_length l k hkl]; omega) h1
    rw [← cut_rev (by omega) hkl] at h4
    refine red_ear (anyEar f) (by rw [List.length_reverse]; exact hl) (i := l.length - 1 - k) (by rw [List.length_reverse]; omega) ?_ h4
    rw [rev_getD _ _ (by omega), show l.length - 1 - (l.length - 1 - k) = k by omega]
    exact h3
/-- a quiddity backwards is one -/
theorem isQ_rev {q : List Int} (h : isQ q = true) : isQ q.reverse = true := by
  have hl := isQ_len h
  rw [isQ_red] at h ⊢
  rw [Bool.and_eq_true] at h ⊢
  obtain ⟨h1, h2⟩ := h
  refine ⟨?_, ?_⟩
  · unfold couldB allB at h1 ⊢
    rw [List.length_reverse, List.all_reverse]
    exact h1
  · rw [List.length_reverse]
    exact red_rev _ q (by omega) h2
end Go.Proofs.Ytfkkbjbgjmaciaa

/- Quiddities counted from diagonals: plain mathematics. -/
namespace Go.Proofs.Ytfkkbjbgjmaciaa
set_option linter.unusedVariables false

def bump (l : List Int) (i : Nat) : List Int := l.set i (l.getD i 0 + 1)
theorem bump_length (l : List Int) (i : Nat) : (bump l i).length = l.length := by simp [bump]
def bump2 (q : List Int) (d : Int × Int) : List Int := bump (bump q d.1.toNat) d.2.toNat
theorem bump2_length (l : List Int) (d : Int × Int) : (bump2 l d).length = l.length := by simp [bump2, bump_length]
/-- the numbers of m corners behind some diagonals -/
def quidF (m : Nat) (ds : List (Int × Int)) : List Int := ds.foldl bump2 (List.replicate m 1)
theorem quidF_nil (m : Nat) : quidF m [] = List.replicate m 1 := rfl
theorem quidF_take (m : Nat) (ds : List (Int × Int)) (k : Nat) (h : k < ds.length) : quidF m (ds.take (k + 1)) = bump2 (quidF m (ds.take k)) (ds.getD k (0, 0)) := by
  unfold quidF
  rw [List.take_succ_eq_append_getElem h, List.foldl_append]
  simp [h]
theorem quidF_length (m : Nat) (ds : List (Int × Int)) : (quidF m ds).length = m := by
  unfold quidF
  have : ∀ (ds : List (Int × Int)) (q : List Int), (ds.foldl bump2 q).length = q.length := by
    intro ds
    induction ds with
    | nil => intro q; rfl
    | cons d r ih => intro q; rw [List.foldl_cons, ih, bump2_length]
  rw [this]; simp

theorem bump_bound (l : List Int) (i : Nat) (b : Int) (hb : 0 ≤ b) (h : ∀ j, 0 ≤ l.getD j 0 ∧ l.getD j 0 ≤ b) : ∀ j, 0 ≤ (bump l i).getD j 0 ∧ (bump l i).getD j 0 ≤ b + 1 := by
  intro j
  have hj := h j
  have hi := h i
  unfold bump
  simp only [List.getD_eq_getElem?_getD, List.getElem?_set] at *
  by_cases e : i = j
  · subst e
    by_cases hl : i < l.length
    · simp [hl] at *; omega
    · simp [hl] at *; omega
  · simp [e] at *; omega
theorem quidF_bound (m : Nat) (ds : List (Int × Int)) (k : Nat) : ∀ j, 0 ≤ (quidF m (ds.take k)).getD j 0 ∧ (quidF m (ds.take k)).getD j 0 ≤ 1 + 2 * (k : Int) := by
  induction k with
  | zero =>
    intro j
    simp only [List.take_zero, quidF_nil, List.getD_eq_getElem?_getD, List.getElem?_replicate]
    by_cases h : j < m <;> simp [h]
  | succ k ih =>
    by_cases h : k < ds.length
    · rw [quidF_take m ds k h]
      intro j
      have h1 := bump_bound _ (ds.getD k (0, 0)).1.toNat _ (by omega) ih
      have h2 := bump_bound _ (ds.getD k (0, 0)).2.toNat _ (by omega) h1
      have := h2 j
      unfold bump2
      omega
    · rw [List.take_of_length_le (by omega)]
      rw [List.take_of_length_le (by omega)] at ih
      intro j
      have := ih j
      omega

theorem bump_take (l : List Int) (i n : Nat) (h : i < n) : (bump l i).take n = bump (l.take n) i := by
  unfold bump
  rw [List.take_set]
  congr 1
  simp [h]
theorem quidF_cut (m n : Nat) (hn : n ≤ m) (ds : List (Int × Int)) (h : ∀ d ∈ ds, d.1.toNat < n ∧ d.2.toNat < n) : (quidF m ds).take n = quidF n ds := by
  unfold quidF
  have : ∀ (ds : List (Int × Int)) (q : List Int), (∀ d ∈ ds, d.1.toNat < n ∧ d.2.toNat < n) → (ds.foldl bump2 q).take n = ds.foldl bump2 (q.take n) := by
    intro ds
    induction ds with
    | nil => intro q _; rfl
    | cons d r ih =>
      intro q h
      rw [List.foldl_cons, ih _ (fun d hd => h d (by simp [hd])), List.foldl_cons]
      congr 1
      have := h d (by simp)
      unfold bump2
      rw [bump_take _ _ _ this.2, bump_take _ _ _ this.1]
  rw [this ds _ h]
  simp [Nat.min_eq_left hn]

theorem upTo_at (n : Int) (ds : List (Int × Int)) (m : Nat) (h : upTo n ds m = true) (i : Nat) (hi : i < m) : okAt n ds i = true := by
  unfold upTo at h
  rw [List.all_eq_true] at h
  exact h i (by simpa using hi)
theorem tri_at {n : Int} {ds : List (Int × Int)} (h : triB n ds = true) (i : Nat) (hi : i < ds.length) : dgB n (ds.getD i (0, 0)).1 (ds.getD i (0, 0)).2 = true := by
  unfold triB uncB at h
  simp only [Bool.and_eq_true] at h
  have := upTo_at n ds _ h.2 i hi
  unfold okAt at this
  simp only [Bool.and_eq_true] at this
  exact this.1.1
theorem tri_n {n : Int} {ds : List (Int × Int)} (h : triB n ds = true) : 3 ≤ n ∧ n ≤ 12 ∧ (ds.length : Int) = n - 3 := by
  unfold triB poB at h
  simp only [Bool.and_eq_true, decide_eq_true_eq] at h
  omega
theorem tri_mem {n : Int} {ds : List (Int × Int)} (h : triB n ds = true) : ∀ d ∈ ds, 0 ≤ d.1 ∧ d.1 + 2 ≤ d.2 ∧ d.2 < n := by
  intro d hd
  obtain ⟨i, hi, rfl⟩ := List.getElem_of_mem hd
  have := tri_at h i hi
  have e : ds.getD i (0, 0) = ds[i] := by simp [hi]
  rw [e, dgB_iff] at this
  omega

/-- the quiddity of a triangulation; none of another list -/
def quidL (n : Int) (ds : List (Int × Int)) : List Int := if triB n ds = true then quidF n.toNat ds else []
end Go.Proofs.Ytfkkbjbgjmaciaa

/- Corners moved: plain mathematics. -/
namespace Go.Proofs.Ytfkkbjbgjmaciaa
set_option linter.unusedVariables false

/-- a pair of corners, moved and put in order -/
def mvD (f : Int → Int) (d : Int × Int) : Int × Int := (min (f d.1) (f d.2), max (f d.1) (f d.2))
def mvL (f : Int → Int) (l : List (Int × Int)) : List (Int × Int) := l.map (mvD f)
theorem mvL_length (f : Int → Int) (l : List (Int × Int)) : (mvL f l).length = l.length := by simp [mvL]
theorem mvL_take (f : Int → Int) (l : List (Int × Int)) (k : Nat) (h : k < l.length) : mvL f (l.take (k + 1)) = mvL f (l.take k) ++ [mvD f (l.getD k (0, 0))] := by
  unfold mvL
  rw [List.take_succ_eq_append_getElem h, List.map_append]
  simp [h]
/-- by a list of corners -/
def byL (tt : List Int) (c : Int) : Int := tt.getD c.toNat 0
def turnF (n k c : Int) : Int := (c + k) % n
def mirrF (n c : Int) : Int := n - 1 - c
theorem mvL_congr {f g : Int → Int} {l : List (Int × Int)} (h : ∀ d ∈ l, f d.1 = g d.1 ∧ f d.2 = g d.2) : mvL f l = mvL g l := by
  unfold mvL
  refine List.map_congr_left fun d hd => ?_
  obtain ⟨h1, h2⟩ := h d hd
  unfold mvD
  rw [h1, h2]
/-- f at 0, 1, .., m - 1 -/
def tabL (f : Int → Int) (m : Nat) : List Int := (List.range m).map fun (i : Nat) => f i
theorem tabL_length (f : Int → Int) (m : Nat) : (tabL f m).length = m := by simp [tabL]
theorem tabL_succ (f : Int → Int) (m : Nat) : tabL f (m + 1) = tabL f m ++ [f m] := by simp [tabL, List.range_succ]
theorem byL_tab (f : Int → Int) (m : Nat) (c : Int) (h0 : 0 ≤ c) (h : c < m) : byL (tabL f m) c = f c := by
  obtain ⟨j, rfl⟩ := Int.eq_ofNat_of_zero_le h0
  have : j < m := by omega
  simp [byL, tabL, this]
/-- diagonals of a polygon, few -/
def Dgs (n : Int) (l : List (Int × Int)) : Prop := 3 ≤ n ∧ n ≤ 12 ∧ (l.length : Int) ≤ n - 3 ∧ ∀ d ∈ l, 0 ≤ d.1 ∧ d.1 + 2 ≤ d.2 ∧ d.2 < n
theorem tri_dgs {n : Int} {l : List (Int × Int)} (h : triB n l = true) : Dgs n l := ⟨(tri_n h).1, (tri_n h).2.1, by have := (tri_n h).2.2; omega, tri_mem h⟩
theorem mvL_tab_d {n : Int} {m : Nat} (hm : n = m) {l : List (Int × Int)} (ht : Dgs n l) (f : Int → Int) : mvL (byL (tabL f m)) l = mvL f l :=
  mvL_congr fun d hd => by
    have := ht.2.2.2 d hd
    have := ht.2.1
    exact ⟨byL_tab f m _ (by omega) (by omega), byL_tab f m _ (by omega) (by omega)⟩
theorem mvL_tab {n : Int} {m : Nat} (hm : n = m) {l : List (Int × Int)} (ht : triB n l = true) (f : Int → Int) : mvL (byL (tabL f m)) l = mvL f l :=
  mvL_congr fun d hd => by
    have := tri_mem ht d hd
    exact ⟨byL_tab f m _ (by omega) (by omega), byL_tab f m _ (by omega) (by omega)⟩
/-- a polygon turned; mirrored -/
def turnL (n : Int) (l : List (Int × Int)) (k : Int) : List (Int × Int) := if (triB n l && inB k 0 (n - 1)) = true then sortD (mvL (turnF n k) l) else []
def mirrL (n : Int) (l : List (Int × Int)) : List (Int × Int) := if triB n l = true then sortD (mvL (mirrF n) l) else []
theorem sort_mv_length (f : Int → Int) (l : List (Int × Int)) : (sortD (mvL f l)).length = l.length := by rw [sortD_length, mvL_length]
theorem turnL_length (n : Int) (l : List (Int × Int)) (k : Int) : (turnL n l k).length ≤ 1000000000 := by
  unfold turnL
  split
  · rename_i h
    rw [Bool.and_eq_true] at h
    have := tri_n h.1
    rw [sort_mv_length]; omega
  · simp
theorem mirrL_length (n : Int) (l : List (Int × Int)) : (mirrL n l).length ≤ 1000000000 := by
  unfold mirrL
  split
  · rename_i h
    have := tri_n h
    rw [sort_mv_length]; omega
  · simp
end Go.Proofs.Ytfkkbjbgjmaciaa

/- append of a slice that reads as a list (a nil one, an empty one too), onto a row of the call's own: plain, and as a step of a drawn region. -/
namespace Go.Proofs.Ytfkkbjbgjmaciaa
set_option linter.unusedVariables false
open Go.RowKit

section
variable {ops : Array Oper} {rest : List Oper} {o : Oper} {a : Act} {Q : Exit → Act → World → Prop}

theorem one_dcs {l : List (Int × Int)} : ∀ u ∈ dcs l, u.oneCell' = true := by
  induction l with
  | nil => intro u hu; cases hu
  | cons d r ih =>
    intro u hu
    simp only [dcs, List.mem_cons] at hu
    rcases hu with rfl | rfl | hu
    · rfl
    · rfl
    · exact ih u hu
theorem SlD.news {w : World} {B b off : Nat} {l : List (Int × Int)} (h : SlD w B (some ⟨b, off, none⟩) l) : ∀ j u, (dcs l)[j]? = some u → w.cell? ((⟨b, off, none⟩ : Addr).add j) = some u := by
  intro j u hu
  have hj : j < l.length * 2 := by
    have := (List.getElem?_eq_some_iff.1 hu).1
    rwa [dcs_length] at this
  obtain ⟨b', off', e, _, hc⟩ := h (by omega)
  cases e
  rw [Addr.add_lit]
  by_cases hp : j % 2 = 0
  · obtain ⟨i, rfl⟩ : ∃ i, j = i * 2 := ⟨j / 2, by omega⟩
    rw [dcs_get0 l i (by omega)] at hu
    rw [← hu]
    exact (hc i (by omega)).1
  · obtain ⟨i, rfl⟩ : ∃ i, j = i * 2 + 1 := ⟨j / 2, by omega⟩
    rw [dcs_get1 l i (by omega)] at hu
    rw [← hu]
    exact (hc i (by omega)).2

theorem wp_appendS {K : Act → World → Prop} (w : World) (s x : Operand) (ho : o.op = .call { callee := .builtin .append, args := #[s, x], argTypes := #[150, 150] })
    (base : Nat) (v : Value) (L : List (Int × Int)) (hs : a.eval s = v) (hown : w.ownsRow base 161 2 v L.length (dcs L)) (A : Option Addr) (m c : Nat) (r : List (Int × Int)) (B : Nat) (hx : a.eval x = .slice A m c) (hm : r.length = m)
    (hr : SlD w B A r) (hlen : L.length ≤ 1000000) (hlr : m ≤ 1000000) (hbase : base ≤ w.heap.size)
    (h : ∀ A' c' w', w'.ownsRow base 161 2 (.slice A' (L.length + m) c') (L.length + m) (dcs (L ++ r)) → w.grownBy w' v.ownBlock → K (a.put o.dst (.slice A' (L.length + m) c')) w') :
    o.wp Try.prog a w K Q := by
  obtain ⟨i0, hi, hz0, hz1, hz2⟩ := info_parts infoD
  have fin : ∀ v' w', w'.ownsRow base 161 2 v' (L.length + m) (dcs L ++ dcs r) → w.grownBy w' v.ownBlock → K (a.put o.dst v') w' := by
    intro v' w' ho' hg
    rw [← dcs_append] at ho'
    obtain ⟨A', c', rfl⟩ := own_form ho'
    exact h A' c' w' ho' hg
  by_cases h0 : 0 < r.length
  · obtain ⟨b, off, rfl, _, _⟩ := hr h0
    exact wp_append_own w s x 150 ho base 161 i0 (.agg #[.int .i64 0, .int .i64 0]) 2 16 Try.underlying150 hi hz0 hz1 hz2 rfl (by decide) v L.length (dcs L) hs hown ⟨b, off, none⟩ m c (dcs r) hx (by rw [dcs_length, hm]) hr.news one_dcs
      (by unfold maxLen; omega) (by omega) hbase (fun v' w' h1 h2 _ => fin v' w' h1 h2)
  · obtain rfl : r = [] := List.eq_nil_of_length_eq_zero (by omega)
    obtain rfl : m = 0 := hm.symm
    cases A with
    | some ad =>
      exact wp_append_own w s x 150 ho base 161 i0 (.agg #[.int .i64 0, .int .i64 0]) 2 16 Try.underlying150 hi hz0 hz1 hz2 rfl (by decide) v L.length (dcs L) hs hown ad 0 c (dcs []) hx rfl (fun j u hu => by simp [dcs] at hu) one_dcs
        (by unfold maxLen; omega) (by omega) hbase (fun v' w' h1 h2 _ => fin v' w' h1 h2)
    | none =>
      obtain ⟨v', hrun⟩ : ∃ v', (Builtin.append_ #[150, 150] o.type #[v, .slice none 0 c]).run Try.prog w = .ok v' w ∧ v' = v := by
        refine ⟨v, ?_, rfl⟩
        rcases hown.2 with ⟨rfl, hn⟩ | ⟨g, cap, cur, rfl, _, _, hnc, _⟩
        · simp [Builtin.append_, run_underlying Try.underlying150, sizeOf, typeInfo, hi, Builtin.lenOf, Builtin.firstCells]
        · simp [Builtin.append_, run_underlying Try.underlying150, sizeOf, typeInfo, hi, Builtin.lenOf, Builtin.firstCells, hnc, storeCells]
      obtain ⟨hrun, rfl⟩ := hrun
      unfold Oper.wp execOp
      simp only [ho, resolve, invoke, builtin, Sem.run_bind, Sem.run_pure, Result.andThen_ok, List.map_toArray, List.map_cons, List.map_nil, hs, hx, hrun]
      exact fin v' w (by simpa [dcs] using hown) (World.grownBy.refl w _)

theorem wpList_appendS (w : World) (hgd : o.guard = none) (s x : Operand) (ho : o.op = .call { callee := .builtin .append, args := #[s, x], argTypes := #[150, 150] })
    (base : Nat) (v : Value) (L : List (Int × Int)) (hs : a.eval s = v) (hown : w.ownsRow base 161 2 v L.length (dcs L)) (A : Option Addr) (m c : Nat) (r : List (Int × Int)) (B : Nat) (hx : a.eval x = .slice A m c) (hm : r.length = m)
    (hr : SlD w B A r) (hlen : L.length ≤ 1000000) (hlr : m ≤ 1000000) (hbase : base ≤ w.heap.size)
    (h : ∀ A' c' w', w'.ownsRow base 161 2 (.slice A' (L.length + m) c') (L.length + m) (dcs (L ++ r)) → w.grownBy w' v.ownBlock → wpList Try.prog ops Q rest (a.put o.dst (.slice A' (L.length + m) c')) w') :
    wpList Try.prog ops Q (o :: rest) a w :=
  wpList_plain hgd fun _ hK => wp_appendS w s x ho base v L hs hown A m c r B hx hm hr hlen hlr hbase fun A' c' w' h1 h2 => hK _ _ (h A' c' w' h1 h2)

theorem step_appendS {K : Act → World → Prop} {E : Prop} (w : World) (hgd : o.guard = none) (s x : Operand) (ho : o.op = .call { callee := .builtin .append, args := #[s, x], argTypes := #[150, 150] })
    (base : Nat) (v : Value) (L : List (Int × Int)) (hs : a.eval s = v) (hown : w.ownsRow base 161 2 v L.length (dcs L)) (A : Option Addr) (m c : Nat) (r : List (Int × Int)) (B : Nat) (hx : a.eval x = .slice A m c) (hm : r.length = m)
    (hr : SlD w B A r) (hlen : L.length ≤ 1000000) (hlr : m ≤ 1000000) (hbase : base ≤ w.heap.size)
    (h : ∀ A' c' w', w'.ownsRow base 161 2 (.slice A' (L.length + m) c') (L.length + m) (dcs (L ++ r)) → w.grownBy w' v.ownBlock → K (a.put o.dst (.slice A' (L.length + m) c')) w') :
    if Region.wanted o (yielded ops a.tmps) = true then Oper.wp Try.prog o a w K Q else E := by
  have hw : Region.wanted o (yielded ops a.tmps) = true := by simp [Region.wanted, hgd]
  rw [if_pos hw]
  exact wp_appendS w s x ho base v L hs hown A m c r B hx hm hr hlen hlr hbase h
end

theorem step_appendN {ops : Array Oper} {o : Oper} {a : Act} {Q : Exit → Act → World → Prop} {K : Act → World → Prop} {E : Prop} (w : World) (hgd : o.guard = none) (s x : Operand) (ho : o.op = .call { callee := .builtin .append, args := #[s, x], argTypes := #[150, 150] })
    (base : Nat) (v : Value) (n : Nat) (L : List (Int × Int)) (hn : L.length = n) (hs : a.eval s = v) (hown : w.ownsRow base 161 2 v n (dcs L)) (A : Option Addr) (m c : Nat) (r : List (Int × Int)) (B N : Nat) (hN : N = n + m) (hx : a.eval x = .slice A m c) (hm : r.length = m)
    (hr : SlD w B A r) (hlen : n ≤ 1000000) (hlr : m ≤ 1000000) (hbase : base ≤ w.heap.size)
    (h : ∀ A' c' w', w'.ownsRow base 161 2 (.slice A' N c') N (dcs (L ++ r)) → w.grownBy w' v.ownBlock → K (a.put o.dst (.slice A' N c')) w') :
    if Region.wanted o (yielded ops a.tmps) = true then Oper.wp Try.prog o a w K Q else E := by
  subst hN
  subst hn
  exact step_appendS w hgd s x ho base v L hs hown A m c r B hx hm hr hlen hlr hbase h
theorem wpList_appendN {ops : Array Oper} {rest : List Oper} {o : Oper} {a : Act} {Q : Exit → Act → World → Prop} (w : World) (hgd : o.guard = none) (s x : Operand) (ho : o.op = .call { callee := .builtin .append, args := #[s, x], argTypes := #[150, 150] })
    (base : Nat) (v : Value) (n : Nat) (L : List (Int × Int)) (hn : L.length = n) (hs : a.eval s = v) (hown : w.ownsRow base 161 2 v n (dcs L)) (A : Option Addr) (m c : Nat) (r : List (Int × Int)) (B N : Nat) (hN : N = n + m) (hx : a.eval x = .slice A m c) (hm : r.length = m)
    (hr : SlD w B A r) (hlen : n ≤ 1000000) (hlr : m ≤ 1000000) (hbase : base ≤ w.heap.size)
    (h : ∀ A' c' w', w'.ownsRow base 161 2 (.slice A' N c') N (dcs (L ++ r)) → w.grownBy w' v.ownBlock → wpList Try.prog ops Q rest (a.put o.dst (.slice A' N c')) w') : wpList Try.prog ops Q (o :: rest) a w := by
  subst hN
  subst hn
  exact wpList_appendS w hgd s x ho base v L hs hown A m c r B hx hm hr hlen hlr hbase h
theorem own_cap {w : World} {base e size n c : Nat} {A : Option Addr} {xs : List Value} (h : w.ownsRow base e size (.slice A n c) n xs) : n ≤ c := by
  rcases h.2 with ⟨h', hn⟩ | ⟨g, cap, cur, h', _, _, hnc, _⟩
  · omega
  · injection h' with _ _ hc
    omega
theorem reheld {w1 w w' : World} {p0 p1 : Addr} {v0 v1 : Value} {row : Option Nat} (q2 : w1.cell? p0 = some v0) (q3 : w1.cell? p1 = some v1) (h : w.cell? p0 = some v0 ∧ w.cell? p1 = some v1 ∧ Below w1.heap.size w1 w) (hg : w.grownBy w' row) (hr : ∀ k, row = some k → w1.heap.size ≤ k) :
    w'.cell? p0 = some v0 ∧ w'.cell? p1 = some v1 ∧ Below w1.heap.size w1 w' := by
  have hn := below_grown h.2.2 hg (Nat.le_refl _) hr
  exact ⟨cell_kept hn q2, cell_kept hn q3, hn⟩

/-- two cells of one block read as a list of one pair -/
theorem SlD.one {w : World} {g B : Nat} {y z : Int} (h0 : w.cell? ⟨g, 0, none⟩ = some (.int .i64 y)) (h1 : w.cell? ⟨g, 1, none⟩ = some (.int .i64 z)) (hB : g < B) : SlD w B (some ⟨g, 0, none⟩) [(y, z)] := fun _ =>
  ⟨g, 0, rfl, hB, fun j hj => by
    obtain rfl : j = 0 := by simpa using hj
    exact ⟨by simpa using h0, by simpa using h1⟩⟩
theorem SlD.drop {w : World} {B b off : Nat} {l : List (Int × Int)} (h : SlD w B (some ⟨b, off, none⟩) l) (k : Nat) : SlD w B (some ⟨b, off + k * 2, none⟩) (l.drop k) := fun h0 => by
  have hl : k < l.length := by simp at h0; omega
  obtain ⟨b', off', e, hb, hc⟩ := h (by omega)
  cases e
  refine ⟨b, off + k * 2, rfl, hb, fun j hj => ?_⟩
  have hj2 : k + j < l.length := by simp at hj; omega
  have e : (l.drop k).getD j (0, 0) = l.getD (k + j) (0, 0) := by simp [List.getD_eq_getElem?_getD]
  rw [e]
  have := hc (k + j) hj2
  rw [show off + k * 2 + j * 2 = off + (k + j) * 2 by omega]
  exact this
/-- an empty row in a block that was just made -/
theorem own_made (w : World) {B : Nat} (hB : B ≤ w.heap.size) : (w.alloc (.cells #[] 161)).ownsRow B 161 2 (.slice (some ⟨w.heap.size, 0, none⟩) 0 0) ([] : List (Int × Int)).length (dcs []) :=
  World.ownsRow_made w #[] 0 hB (by decide) rfl
end Go.Proofs.Ytfkkbjbgjmaciaa

/- The program's own test of triangulations, function by function. -/
namespace Go.Proofs.Ytfkkbjbgjmaciaa
set_option linter.unusedVariables false
open Go.RowKit

theorem cmp_isNaN (a : Int) (w : World) : Calls Try.prog 225 #[.int .i64 a] w fun e w' => e = .returned (.bool false) ∧ w = w' := by
  go_enter Try.func225, Try.ntmps225
  go_wp2
  go_ret
  exact ⟨rfl, rfl⟩

theorem cmp_Compare (a b : Int) (w : World) : Calls Try.prog 211 #[.int .i64 a, .int .i64 b] w fun e w' => e = .returned (.int .i64 (sgnI a b)) ∧ w = w' := by
  rcases Int.lt_trichotomy a b with h | h | h
  · have h1 : ¬ b < a := by omega
    rw [show sgnI a b = -1 from if_pos h]
    go_enter Try.func211, Try.ntmps211
    go_wp2_with (go_at_call 225; refine (cmp_isNaN _ _).mono ?_; rintro e w' ⟨rfl, rfl⟩)
    go_ret
    exact ⟨rfl, rfl⟩
  · subst h
    have h1 : ¬ a < a := by omega
    rw [show sgnI a a = 0 by simp [sgnI]]
    go_enter Try.func211, Try.ntmps211
    go_wp2_with (go_at_call 225; refine (cmp_isNaN _ _).mono ?_; rintro e w' ⟨rfl, rfl⟩)
    go_ret
    exact ⟨rfl, rfl⟩
  · have h1 : ¬ a < b := by omega
    rw [show sgnI a b = 1 by simp [sgnI, h1, h]]
    go_enter Try.func211, Try.ntmps211
    go_wp2_with (go_at_call 225; refine (cmp_isNaN _ _).mono ?_; rintro e w' ⟨rfl, rfl⟩)
    go_ret
    exact ⟨rfl, rfl⟩

theorem cmp_Or (g : Nat) (a b : Int) (w : World) (h0 : w.cell? ⟨g, 0, none⟩ = some (.int .i64 a)) (h1 : w.cell? ⟨g, 1, none⟩ = some (.int .i64 b)) :
    Calls Try.prog 210 #[.slice (some ⟨g, 0, none⟩) 2 2] w fun e w' => e = .returned (.int .i64 (orI a b)) ∧ w = w' := by
  by_cases ha : a = 0
  · subst ha
    rw [show orI 0 b = b from rfl]
    by_cases hb : b = 0
    · subst hb
      go_enter Try.func210, Try.ntmps210
      go_wp2
      refine wp_loop_rounds 3 ?_
      rw [rounds_succ]
      go_wp2
      rw [rounds_succ]
      go_wp2
      rw [rounds_succ]
      go_wp2
      go_ret
      exact ⟨rfl, rfl⟩
    · have hb' : (b != 0) = true := by simpa using hb
      go_enter Try.func210, Try.ntmps210
      go_wp2
      refine wp_loop_rounds 2 ?_
      rw [rounds_succ]
      go_wp2
      rw [rounds_succ]
      go_wp2
      go_ret
      exact ⟨rfl, rfl⟩
  · have ha' : (a != 0) = true := by simpa using ha
    rw [show orI a b = a from if_neg ha]
    go_enter Try.func210, Try.ntmps210
    go_wp2
    refine wp_loop_rounds 1 ?_
    rw [rounds_succ]
    go_wp2
    go_ret
    exact ⟨rfl, rfl⟩

theorem impl_compareDiagonals (a b c d : Int) (w : World) :
    Calls Try.prog 194 #[.agg #[.int .i64 a, .int .i64 b], .agg #[.int .i64 c, .int .i64 d]] w fun e w' => e = .returned (.int .i64 (cmpD a b c d)) ∧ Below w.heap.size w w' := by
  go_enter Try.func194, Try.ntmps194
  go_wp2
  go_region_held3 (fun w' => w'.cell? ⟨w.heap.size, 0, none⟩ = some (.int .i64 a) ∧ w'.cell? ⟨w.heap.size, 1, none⟩ = some (.int .i64 b) ∧
      w'.cell? ⟨w.heap.size + 1, 0, none⟩ = some (.int .i64 c) ∧ w'.cell? ⟨w.heap.size + 1, 1, none⟩ = some (.int .i64 d) ∧ Below w.heap.size w w')
    (first
      | exact ⟨by simp [go_sem], by simp [go_sem], by simp [go_sem], by simp [go_sem], (((Below.refl w.heap.size w).alloc (Nat.le_refl _) _).alloc (by simp) _).drew⟩
      | assumption
      | exact kept4 (by assumption) ((Below.refl _ _).alloc (Nat.le_refl _) _) (Nat.le_refl _))
    (first
      | (go_at_call 211; refine (cmp_Compare _ _ _).mono ?_; rintro e w1 ⟨rfl, rfl⟩)
      | (go_at_call 210; refine (cmp_Or _ (sgnI a c) (sgnI b d) _ ?h0 ?h1).mono ?_; (case h0 => simp [go_sem]); (case h1 => simp [go_sem]); rintro e w1 ⟨rfl, rfl⟩))
  rename_i hS
  obtain ⟨_, _, _, _, hd⟩ := hS
  go_wp2
  go_ret
  exact ⟨ret_int (orI_sgn a b c d), hd⟩


def Found (q : Bool) (w : World) (e : Ending) (w' : World) : Prop := ∃ r : Int, e = .returned (.int .i64 r) ∧ decide (0 ≤ r) = q ∧ Below w.heap.size w w'





end Go.Proofs.Ytfkkbjbgjmaciaa

/- The model's order of diagonals and its number of corners. -/
namespace Go.Proofs.Ytfkkbjbgjmaciaa
set_option linter.unusedVariables false
open Go.RowKit

theorem spec_poLess (a b c d : Int) (w : World) :
    Calls Try.prog 195 #[.agg #[.int .i64 a, .int .i64 b], .agg #[.int .i64 c, .int .i64 d]] w fun e w' => e = .returned (.bool (ltB a b c d)) ∧ Below w.heap.size w w' := by
  by_cases h1 : a < c
  · go_enter Try.func195, Try.ntmps195
    go_wp2
    go_ret
    exact ⟨ret_bool (by simp [ltB, h1]), ((Below.refl _ _).alloc (Nat.le_refl _) _).alloc (by simp) _⟩
  · by_cases h2 : a = c
    · subst h2
      go_enter Try.func195, Try.ntmps195
      go_wp2
      all_goals go_ret
      all_goals exact ⟨ret_bool (by simp [ltB]), ((Below.refl _ _).alloc (Nat.le_refl _) _).alloc (by simp) _⟩
    · have h2' : (a == c) = false := by simpa using h2
      have h3 : ltB a b c d = false := by simp [ltB, h1, h2]
      have H3 := Lib.hid h3
      clear h3
      go_enter Try.func195, Try.ntmps195
      go_wp2
      all_goals go_ret
      all_goals exact ⟨ret_bool H3.out.symm, ((Below.refl _ _).alloc (Nat.le_refl _) _).alloc (by simp) _⟩

theorem spec_poIs (n : Int) (b : Bool) (w : World) (h : poB n = b) : Calls Try.prog 185 #[.int .i64 n] w fun e w' => e = .returned (.bool b) ∧ w = w' := by
  subst h
  go_enter Try.func185, Try.ntmps185
  go_wp2
  all_goals go_ret
  all_goals refine ⟨ret_bool ?_, rfl⟩
  all_goals (unfold poB; rw [Bool.eq_iff_iff]; simp; try omega)

end Go.Proofs.Ytfkkbjbgjmaciaa

/- The model's poSorted: insertion into a list in order. -/
namespace Go.Proofs.Ytfkkbjbgjmaciaa
set_option linter.unusedVariables false
open Go.RowKit

/-- how many of a list come before x, from the front on -/
def insK (x : Int × Int) : List (Int × Int) → Nat
  | [] => 0
  | y :: r => if ltB y.1 y.2 x.1 x.2 = true then insK x r + 1 else 0
theorem insK_le (x : Int × Int) (l : List (Int × Int)) : insK x l ≤ l.length := by
  induction l with
  | nil => simp [insK]
  | cons y r ih => unfold insK; split <;> simp <;> omega
theorem ins_eq (x : Int × Int) (l : List (Int × Int)) : ins x l = l.take (insK x l) ++ [x] ++ l.drop (insK x l) := by
  induction l with
  | nil => rfl
  | cons y r ih =>
    unfold ins insK
    cases h : ltB y.1 y.2 x.1 x.2
    · simp
    · simp [ih]
theorem insK_step (x : Int × Int) (l : List (Int × Int)) : ∀ k, k < l.length → k ≤ insK x l → (ltB (l.getD k (0, 0)).1 (l.getD k (0, 0)).2 x.1 x.2 = true → k + 1 ≤ insK x l) ∧ (ltB (l.getD k (0, 0)).1 (l.getD k (0, 0)).2 x.1 x.2 = false → insK x l = k) := by
  induction l with
  | nil => intro k h; simp at h
  | cons y r ih =>
    intro k hk hle
    cases k with
    | zero =>
      simp only [List.getD_cons_zero]
      unfold insK
      constructor
      · intro h; simp [h]
      · intro h; simp [h]
    | succ k =>
      simp only [List.getD_cons_succ]
      unfold insK at hle ⊢
      cases h : ltB y.1 y.2 x.1 x.2
      · simp [h] at hle
      · simp only [h, if_true] at hle ⊢
        have := ih k (by simpa using hk) (by omega)
        constructor
        · intro h2; have := this.1 h2; omega
        · intro h2; have := this.2 h2; omega
theorem sortD_take (l : List (Int × Int)) (k : Nat) (h : k < l.length) : sortD (l.take (k + 1)) = ins (l.getD k (0, 0)) (sortD (l.take k)) := by
  unfold sortD
  rw [List.take_succ_eq_append_getElem h, List.foldl_append]
  simp [h]

theorem size2 {w1 w : World} {p0 p1 : Addr} {v0 v1 : Value} (h : w.cell? p0 = some v0 ∧ w.cell? p1 = some v1 ∧ Below w1.heap.size w1 w) : w1.heap.size ≤ w.heap.size := h.2.2.size

set_option maxRecDepth 100000 in
set_option maxHeartbeats 3200000 in
theorem spec_poSorted (A : Option Addr) (c B : Nat) (l : List (Int × Int)) (w : World) (h : SlD w B A l) (hB : B ≤ w.heap.size) (hl : l.length ≤ 1000) :
    Calls Try.prog 186 #[.slice A l.length c] w (GivD w (sortD l)) := by
  go_enter Try.func186, Try.ntmps186
  go_wp2
  go_loopw [3, 5, 6, 7, 10] (fun v _ _ _ i wr => ∃ (k : Nat) (A' : Option Addr) (c' : Nat), k ≤ l.length ∧ i = .int .i64 k ∧ v = .slice A' (sortD (l.take k)).length c' ∧ wr.ownsRow w.heap.size 161 2 (.slice A' (sortD (l.take k)).length c') (sortD (l.take k)).length (dcs (sortD (l.take k))) ∧ Below w.heap.size w wr) (fun _ _ _ _ i _ => l.length - (intOf i).toNat)
  case atStart => exact ⟨0, none, 0, Nat.zero_le _, rfl, rfl, World.ownsRow_nil _ _ _ _, Below.refl _ _⟩
  case round =>
    obtain ⟨k, A', c', hk, rfl, rfl, ho, hb⟩ := hrel
    by_cases hlt : k < l.length
    · obtain ⟨b, off, rfl, hbB, hc⟩ := h.below (hb.mono hB) (by omega)
      obtain ⟨g0, g1⟩ := hc k hlt
      have i0 : (0 : Int) ≤ (k : Int) := by omega
      have i1 : (k : Int) < (l.length : Int) := by omega
      have hst := sortD_take l k hlt
      have hsl : (sortD (l.take k)).length ≤ 1000 := by rw [sortD_length]; simp; omega
      generalize hx : l.getD k (0, 0) = x at *
      generalize hL : sortD (l.take k) = L at *
      obtain ⟨x0, x1⟩ := x
      dsimp only at g0 g1
      have Hst := Lib.hid hst
      clear hc hst hx hL
      go_wp2
      obtain ⟨wo, rfl⟩ : ∃ wo : World, wo = wr := ⟨_, rfl⟩
      have ho1 := ho.alloc (.cells #[.int .i64 x0, .int .i64 x1] 161)
      have hb1 := hb.alloc hb.size (.cells #[.int .i64 x0, .int .i64 x1] 161)
      have q0 : (wo.alloc (.cells #[.int .i64 x0, .int .i64 x1] 161)).cell? ⟨wo.heap.size, 0, none⟩ = some (.int .i64 x0) := by simp [go_sem]
      have q1 : (wo.alloc (.cells #[.int .i64 x0, .int .i64 x1] 161)).cell? ⟨wo.heap.size, 1, none⟩ = some (.int .i64 x1) := by simp [go_sem]
      go_loopw [6] (fun j wr => ∃ j' : Nat, j' ≤ L.length ∧ j = .int .i64 j' ∧ j' ≤ insK (x0, x1) L ∧ Below (wo.alloc (.cells #[.int .i64 x0, .int .i64 x1] 161)).heap.size (wo.alloc (.cells #[.int .i64 x0, .int .i64 x1] 161)) wr) (fun j _ => L.length - (intOf j).toNat)
      case atStart => exact ⟨0, Nat.zero_le _, rfl, Nat.zero_le _, Below.refl _ _⟩
      case round =>
        obtain ⟨j, hj, rfl, hjk, hbi⟩ := hrel
        have hbw := below_kept hb1 (Nat.le_refl _) hbi
        have how := own_kept ho1 hbi
        have q2 := cell_kept hbi q0
        have q3 := cell_kept hbi q1
        have hsz : wo.heap.size + 1 ≤ wr.heap.size := by have := hbi.size; simpa using this
        clear ho hb hb1 ho1 q0 q1 g0 g1
        have Hle := Lib.hid (insK_le (x0, x1) L)
        have hm0 : (0 : Int) ≤ (j : Int) := by omega
        by_cases hjl : j < L.length
        · obtain ⟨b2, off2, rfl, _, hc2⟩ := SlD.of_own how (by omega)
          obtain ⟨s0, s1⟩ := hc2 j hjl
          have hstep := insK_step (x0, x1) L j hjl hjk
          generalize L.getD j (0, 0) = y at *
          obtain ⟨y0, y1⟩ := y
          dsimp only at s0 s1 hstep
          have Hstep := Lib.hid hstep
          have hm1 : (j : Int) < (L.length : Int) := by omega
          clear hc2 hstep
          go_wp2
          go_region_held3 (fun w' => w'.cell? ⟨wo.heap.size, 0, none⟩ = some (.int .i64 x0) ∧ w'.cell? ⟨wo.heap.size, 1, none⟩ = some (.int .i64 x1) ∧
              w'.cell? ⟨b2, off2 + j * 2, none⟩ = some (.int .i64 y0) ∧ w'.cell? ⟨b2, off2 + j * 2 + 1, none⟩ = some (.int .i64 y1) ∧ Below wr.heap.size wr w')
            (first
              | exact kept4 (by assumption) hb1 (Nat.le_refl _)
              | exact ⟨q2, q3, s0, s1, (Below.refl _ _).drew⟩)
            (first
              | (go_at_call 195; refine (spec_poLess _ _ _ _ _).mono ?_; rintro e w1 ⟨rfl, hb1⟩))
          rename_i hS
          have hd := hS.2.2.2.2
          replace q2 := hS.1
          replace q3 := hS.2.1
          replace hbw := below_kept hbw (Nat.le_refl _) hd
          replace how := own_kept how hd
          replace hbi := below_kept hbi (Nat.le_refl _) hd
          have hsz2 : wo.heap.size + 1 ≤ w1.heap.size := Nat.le_trans hsz hd.size
          clear hS hb1 hd s0 s1
          cases hz : ltB y0 y1 x0 x1
          · replace hjk := (Hstep.out).2 hz
            clear Hstep hz
            -- behind the loop: the pair is put in at place j
            have hins : insK (x0, x1) L = j := hjk
            have hnew : sortD (l.take (k + 1)) = L.take j ++ [(x0, x1)] ++ L.drop j := by rw [Hst.out, ins_eq, hins]
            have Hnew := Lib.hid hnew
            have htl : (L.take j).length = j := by simp; omega
            have Htl := Lib.hid htl
            have hsd := (SlD.of_own how)
            have Hsd := Lib.hid hsd
            have hj0 : (0 : Int) ≤ (j : Int) := by omega
            have hj1 : (j : Int) ≤ (L.length : Int) := by omega
            have hcap := own_cap how
            have hj2 : (j : Int) ≤ (c' : Int) := by omega
            clear hnew hins htl hsd hjk
            go_wp2
            go_region_held3 (fun w' => w'.cell? ⟨wo.heap.size, 0, none⟩ = some (.int .i64 x0) ∧ w'.cell? ⟨wo.heap.size, 1, none⟩ = some (.int .i64 x1) ∧ Below w1.heap.size w1 w')
              (first
                | exact reheld q2 q3 (by assumption) hg6 (fun k hk => (own5.lt k hk).1)
                | exact reheld q2 q3 (by assumption) hg5 (above_blk (by simp))
                | exact kept2 (by assumption) ((Below.refl _ _).alloc (Nat.le_refl _) _) (Nat.le_refl _)
                | exact ⟨q2, q3, (Below.refl _ _).drew⟩)
              (first
                | (refine step_appendN _ rfl _ _ rfl w1.heap.size (.slice (some ⟨w1.heap.size, 0, none⟩) 0 0) 0 [] rfl rfl ?_ _ j c' (L.take j) w1.heap.size j ?_ rfl Htl.out ?_ ?_ ?_ ?_ ?_
                   · (first | exact (own_made w1 (Nat.le_refl _)).drew | exact ((own_made w1 (Nat.le_refl _)).alloc _).drew)
                   · omega
                   · exact sld2 Hsd.out (Nat.le_refl _) j (by assumption)
                   · omega
                   · omega
                   · simp <;> omega
                   intro A2 c2 w5 own5 hg5)
                | (refine step_appendN _ rfl _ _ rfl w1.heap.size (.slice (some ⟨w1.heap.size + 1, 0, none⟩) 0 0) 0 [] rfl rfl ?_ _ j c' (L.take j) w1.heap.size j ?_ rfl Htl.out ?_ ?_ ?_ ?_ ?_
                   · (have h5 := own_made (w1.alloc (.cells #[.int .i64 x0, .int .i64 x1] 161)) (B := w1.heap.size) (by simp); simp only [World.size_alloc] at h5; exact h5.drew)
                   · omega
                   · exact sld2 Hsd.out (Nat.le_refl _) j (by assumption)
                   · omega
                   · omega
                   · simp <;> omega
                   intro A2 c2 w5 own5 hg5)
                | (refine step_appendN _ rfl _ _ rfl w1.heap.size (.slice A2 j c2) j ([] ++ L.take j) ?_ rfl ?_ (some ⟨w5.heap.size, 0, none⟩) 1 1 [(x0, x1)] (w5.heap.size + 1) (j + 1) rfl rfl rfl ?_ ?_ ?_ ?_ ?_
                   · simpa using Htl.out
                   · exact own5.alloc _
                   · exact SlD.one (by simp [go_sem]) (by simp [go_sem]) (Nat.lt_succ_self _)
                   · omega
                   · omega
                   · exact size2 (by assumption)
                   intro A3 c3 w6 own6 hg6)
                | (refine step_appendN _ rfl _ _ rfl w1.heap.size (.slice A2 j c2) j ([] ++ L.take j) ?_ rfl ?_ (some ⟨w1.heap.size + 1, 0, none⟩) 1 1 [(x0, x1)] (w1.heap.size + 1 + 1) (j + 1) rfl rfl rfl ?_ ?_ ?_ ?_ ?_
                   · simpa using Htl.out
                   · exact own5
                   · exact SlD.one (hg5.cell (by simp [go_sem]) (by simp [Value.ownBlock])) (hg5.cell (by simp [go_sem]) (by simp [Value.ownBlock])) (Nat.lt_succ_self _)
                   · omega
                   · omega
                   · exact size2 (by assumption)
                   intro A3 c3 w6 own6 hg6)
                | (refine step_appendN _ rfl _ _ rfl w1.heap.size (.slice A2 j c2) j ([] ++ L.take j) ?_ rfl ?_ (some ⟨w1.heap.size, 0, none⟩) 1 1 [(x0, x1)] (w1.heap.size + 1) (j + 1) rfl rfl rfl ?_ ?_ ?_ ?_ ?_
                   · simpa using Htl.out
                   · exact own5
                   · exact SlD.one (hg5.cell (by simp [go_sem]) (by simp [Value.ownBlock])) (hg5.cell (by simp [go_sem]) (by simp [Value.ownBlock])) (Nat.lt_succ_self _)
                   · omega
                   · omega
                   · exact size2 (by assumption)
                   intro A3 c3 w6 own6 hg6))
            all_goals
              rename_i hT
              have hd6 := hT.2.2
              rw [List.nil_append] at own6
              have hl6 : (L.take j ++ [(x0, x1)]).length = j + 1 := by rw [List.length_append, Htl.out]; rfl
              have hsd6 := (Hsd.out.below hd6)
              have hdl : (L.drop j).length = L.length - j := by simp
              have hfull : Hid (∀ A7 c7 w7, w7.ownsRow w1.heap.size 161 2 (.slice A7 (L.length + 1) c7) (L.length + 1) (dcs (L.take j ++ [(x0, x1)] ++ L.drop j)) → w6.grownBy w7 (Value.slice A3 (j + 1) c3).ownBlock →
                  (sortD (l.take (k + 1))).length = L.length + 1 ∧ w7.ownsRow w.heap.size 161 2 (.slice A7 (L.length + 1) c7) (L.length + 1) (dcs (sortD (l.take (k + 1)))) ∧ Below w.heap.size w w7) := Lib.hid (by
                intro A7 c7 w7 o7 g7
                rw [← Hnew.out] at o7
                have e1 : (sortD (l.take (k + 1))).length = L.length + 1 := by have := o7.1; rw [dcs_length] at this; omega
                exact ⟨e1, o7.mono hbw.size, below_kept hbw (Nat.le_refl _) (below_grown hd6 g7 (Nat.le_refl _) (fun k hk => (own6.lt k hk).1))⟩)
              have Hl6 := Lib.hid hl6
              have Hdl := Lib.hid hdl
              have Hsd6 := Lib.hid hsd6
              clear hT hl6 hdl hsd6
              go_wp2_with (at_builtin
                           refine wpList_appendN _ rfl _ _ rfl w1.heap.size (.slice A3 (j + 1) c3) (j + 1) (L.take j ++ [(x0, x1)]) Hl6.out rfl own6 (some ⟨b2, off2 + j * 2, none⟩) (L.length - j) (c' - j) (L.drop j) w1.heap.size (L.length + 1) ?_ rfl Hdl.out (Hsd6.out.drop j) ?_ ?_ ?_ ?_
                           · omega
                           · omega
                           · omega
                           · exact hd6.size
                           intro A7 c7 w7 own7 hg7)
              have hf := hfull.out A7 c7 w7 own7 hg7
              have Hf := Lib.hid hf
              clear hf own7 hg7 hfull hd6 own6
              go_wp2
              go_roundw
              case rel =>
                obtain ⟨e1, o7, b7⟩ := Hf.out
                exact ⟨k + 1, A7, c7, by omega, by go_num, by rw [e1], by rw [e1]; exact o7, b7⟩
              case measure => simp [intOf]; omega
          · replace hjk := (Hstep.out).1 hz
            clear Hstep hz how hbw q2 q3
            go_wp2
            go_roundw
            case rel => exact ⟨j + 1, by omega, by go_num, hjk, hbi⟩
            case measure => simp [intOf]; omega
        · replace hjk : insK (x0, x1) L = j := by have := Hle.out; omega
          have hjL : L.length ≤ j := by omega
          have Hhow := Lib.hid how
          go_wp2
          go_quiet (fail)
          replace q2 : (wr.drewN nq).cell? ⟨wo.heap.size, 0, none⟩ = some (.int .i64 x0) := q2
          replace q3 : (wr.drewN nq).cell? ⟨wo.heap.size, 1, none⟩ = some (.int .i64 x1) := q3
          replace hbw := below_drewN hbw nq
          replace how : (wr.drewN nq).ownsRow w.heap.size 161 2 (.slice A' L.length c') L.length (dcs L) := Hhow.out
          have hsz2 : wo.heap.size + 1 ≤ (wr.drewN nq).heap.size := hsz
          clear Hhow hbi hsz
          generalize wr.drewN nq = w1 at *
          by_cases hcc : c' = j
          · obtain rfl : j = c' := hcc.symm
            clear hcc
            -- behind the loop: the pair is put in at place j
            have hins : insK (x0, x1) L = j := hjk
            have hnew : sortD (l.take (k + 1)) = L.take j ++ [(x0, x1)] ++ L.drop j := by rw [Hst.out, ins_eq, hins]
            have Hnew := Lib.hid hnew
            have htl : (L.take j).length = j := by simp; omega
            have Htl := Lib.hid htl
            have hsd := (SlD.of_own how)
            have Hsd := Lib.hid hsd
            have hj0 : (0 : Int) ≤ (j : Int) := by omega
            have hj1 : (j : Int) ≤ (L.length : Int) := by omega
            have hcap := own_cap how
            have hj2 : (j : Int) ≤ (j : Int) := by omega
            clear hnew hins htl hsd hjk
            go_wp2
            go_region_held3 (fun w' => w'.cell? ⟨wo.heap.size, 0, none⟩ = some (.int .i64 x0) ∧ w'.cell? ⟨wo.heap.size, 1, none⟩ = some (.int .i64 x1) ∧ Below w1.heap.size w1 w')
              (first
                | exact reheld q2 q3 (by assumption) hg6 (fun k hk => (own5.lt k hk).1)
                | exact reheld q2 q3 (by assumption) hg5 (above_blk (by simp))
                | exact kept2 (by assumption) ((Below.refl _ _).alloc (Nat.le_refl _) _) (Nat.le_refl _)
                | exact ⟨q2, q3, (Below.refl _ _).drew⟩)
              (first
                | (refine step_appendN _ rfl _ _ rfl w1.heap.size (.slice (some ⟨w1.heap.size, 0, none⟩) 0 0) 0 [] rfl rfl ?_ _ j j (L.take j) w1.heap.size j ?_ rfl Htl.out ?_ ?_ ?_ ?_ ?_
                   · (first | exact (own_made w1 (Nat.le_refl _)).drew | exact ((own_made w1 (Nat.le_refl _)).alloc _).drew)
                   · omega
                   · exact sld2 Hsd.out (Nat.le_refl _) j (by assumption)
                   · omega
                   · omega
                   · simp <;> omega
                   intro A2 c2 w5 own5 hg5)
                | (refine step_appendN _ rfl _ _ rfl w1.heap.size (.slice (some ⟨w1.heap.size + 1, 0, none⟩) 0 0) 0 [] rfl rfl ?_ _ j j (L.take j) w1.heap.size j ?_ rfl Htl.out ?_ ?_ ?_ ?_ ?_
                   · (have h5 := own_made (w1.alloc (.cells #[.int .i64 x0, .int .i64 x1] 161)) (B := w1.heap.size) (by simp); simp only [World.size_alloc] at h5; exact h5.drew)
                   · omega
                   · exact sld2 Hsd.out (Nat.le_refl _) j (by assumption)
                   · omega
                   · omega
                   · simp <;> omega
                   intro A2 c2 w5 own5 hg5)
                | (refine step_appendN _ rfl _ _ rfl w1.heap.size (.slice A2 j c2) j ([] ++ L.take j) ?_ rfl ?_ (some ⟨w5.heap.size, 0, none⟩) 1 1 [(x0, x1)] (w5.heap.size + 1) (j + 1) rfl rfl rfl ?_ ?_ ?_ ?_ ?_
                   · simpa using Htl.out
                   · exact own5.alloc _
                   · exact SlD.one (by simp [go_sem]) (by simp [go_sem]) (Nat.lt_succ_self _)
                   · omega
                   · omega
                   · exact size2 (by assumption)
                   intro A3 c3 w6 own6 hg6)
                | (refine step_appendN _ rfl _ _ rfl w1.heap.size (.slice A2 j c2) j ([] ++ L.take j) ?_ rfl ?_ (some ⟨w1.heap.size + 1, 0, none⟩) 1 1 [(x0, x1)] (w1.heap.size + 1 + 1) (j + 1) rfl rfl rfl ?_ ?_ ?_ ?_ ?_
                   · simpa using Htl.out
                   · exact own5
                   · exact SlD.one (hg5.cell (by simp [go_sem]) (by simp [Value.ownBlock])) (hg5.cell (by simp [go_sem]) (by simp [Value.ownBlock])) (Nat.lt_succ_self _)
                   · omega
                   · omega
                   · exact size2 (by assumption)
                   intro A3 c3 w6 own6 hg6)
                | (refine step_appendN _ rfl _ _ rfl w1.heap.size (.slice A2 j c2) j ([] ++ L.take j) ?_ rfl ?_ (some ⟨w1.heap.size, 0, none⟩) 1 1 [(x0, x1)] (w1.heap.size + 1) (j + 1) rfl rfl rfl ?_ ?_ ?_ ?_ ?_
                   · simpa using Htl.out
                   · exact own5
                   · exact SlD.one (hg5.cell (by simp [go_sem]) (by simp [Value.ownBlock])) (hg5.cell (by simp [go_sem]) (by simp [Value.ownBlock])) (Nat.lt_succ_self _)
                   · omega
                   · omega
                   · exact size2 (by assumption)
                   intro A3 c3 w6 own6 hg6))
            all_goals
              rename_i hT
              have hd6 := hT.2.2
              rw [List.nil_append] at own6
              have hl6 : (L.take j ++ [(x0, x1)]).length = j + 1 := by rw [List.length_append, Htl.out]; rfl
              have hsd6 := (Hsd.out.below hd6)
              have hdl : (L.drop j).length = L.length - j := by simp
              have hfull : Hid (∀ A7 c7 w7, w7.ownsRow w1.heap.size 161 2 (.slice A7 (L.length + 1) c7) (L.length + 1) (dcs (L.take j ++ [(x0, x1)] ++ L.drop j)) → w6.grownBy w7 (Value.slice A3 (j + 1) c3).ownBlock →
                  (sortD (l.take (k + 1))).length = L.length + 1 ∧ w7.ownsRow w.heap.size 161 2 (.slice A7 (L.length + 1) c7) (L.length + 1) (dcs (sortD (l.take (k + 1)))) ∧ Below w.heap.size w w7) := Lib.hid (by
                intro A7 c7 w7 o7 g7
                rw [← Hnew.out] at o7
                have e1 : (sortD (l.take (k + 1))).length = L.length + 1 := by have := o7.1; rw [dcs_length] at this; omega
                exact ⟨e1, o7.mono hbw.size, below_kept hbw (Nat.le_refl _) (below_grown hd6 g7 (Nat.le_refl _) (fun k hk => (own6.lt k hk).1))⟩)
              have Hl6 := Lib.hid hl6
              have Hdl := Lib.hid hdl
              have Hsd6 := Lib.hid hsd6
              clear hT hl6 hdl hsd6
              go_wp2_with (at_builtin
                           refine wpList_appendN _ rfl _ _ rfl w1.heap.size (.slice A3 (j + 1) c3) (j + 1) (L.take j ++ [(x0, x1)]) Hl6.out rfl own6 A' 0 (0) (L.drop j) w1.heap.size (L.length + 1) ?_ rfl ?_ ?_ ?_ ?_ ?_ ?_
                           · omega
                           · simp <;> omega
                           · exact fun h0 => by simp at h0; omega
                           · omega
                           · omega
                           · exact hd6.size
                           intro A7 c7 w7 own7 hg7)
              have hf := hfull.out A7 c7 w7 own7 hg7
              have Hf := Lib.hid hf
              clear hf own7 hg7 hfull hd6 own6
              go_wp2
              go_roundw
              case rel =>
                obtain ⟨e1, o7, b7⟩ := Hf.out
                exact ⟨k + 1, A7, c7, by omega, by go_num, by rw [e1], by rw [e1]; exact o7, b7⟩
              case measure => simp [intOf]; omega
          · have hcc2 : ¬ j = c' := fun e => hcc e.symm
            -- behind the loop: the pair is put in at place j
            have hins : insK (x0, x1) L = j := hjk
            have hnew : sortD (l.take (k + 1)) = L.take j ++ [(x0, x1)] ++ L.drop j := by rw [Hst.out, ins_eq, hins]
            have Hnew := Lib.hid hnew
            have htl : (L.take j).length = j := by simp; omega
            have Htl := Lib.hid htl
            have hsd := (SlD.of_own how)
            have Hsd := Lib.hid hsd
            have hj0 : (0 : Int) ≤ (j : Int) := by omega
            have hj1 : (j : Int) ≤ (L.length : Int) := by omega
            have hcap := own_cap how
            have hj2 : (j : Int) ≤ (c' : Int) := by omega
            clear hnew hins htl hsd hjk
            go_wp2
            go_region_held3 (fun w' => w'.cell? ⟨wo.heap.size, 0, none⟩ = some (.int .i64 x0) ∧ w'.cell? ⟨wo.heap.size, 1, none⟩ = some (.int .i64 x1) ∧ Below w1.heap.size w1 w')
              (first
                | exact reheld q2 q3 (by assumption) hg6 (fun k hk => (own5.lt k hk).1)
                | exact reheld q2 q3 (by assumption) hg5 (above_blk (by simp))
                | exact kept2 (by assumption) ((Below.refl _ _).alloc (Nat.le_refl _) _) (Nat.le_refl _)
                | exact ⟨q2, q3, (Below.refl _ _).drew⟩)
              (first
                | (refine step_appendN _ rfl _ _ rfl w1.heap.size (.slice (some ⟨w1.heap.size, 0, none⟩) 0 0) 0 [] rfl rfl ?_ _ j c' (L.take j) w1.heap.size j ?_ rfl Htl.out ?_ ?_ ?_ ?_ ?_
                   · (first | exact (own_made w1 (Nat.le_refl _)).drew | exact ((own_made w1 (Nat.le_refl _)).alloc _).drew)
                   · omega
                   · exact sld2 Hsd.out (Nat.le_refl _) j (by assumption)
                   · omega
                   · omega
                   · simp <;> omega
                   intro A2 c2 w5 own5 hg5)
                | (refine step_appendN _ rfl _ _ rfl w1.heap.size (.slice (some ⟨w1.heap.size + 1, 0, none⟩) 0 0) 0 [] rfl rfl ?_ _ j c' (L.take j) w1.heap.size j ?_ rfl Htl.out ?_ ?_ ?_ ?_ ?_
                   · (have h5 := own_made (w1.alloc (.cells #[.int .i64 x0, .int .i64 x1] 161)) (B := w1.heap.size) (by simp); simp only [World.size_alloc] at h5; exact h5.drew)
                   · omega
                   · exact sld2 Hsd.out (Nat.le_refl _) j (by assumption)
                   · omega
                   · omega
                   · simp <;> omega
                   intro A2 c2 w5 own5 hg5)
                | (refine step_appendN _ rfl _ _ rfl w1.heap.size (.slice A2 j c2) j ([] ++ L.take j) ?_ rfl ?_ (some ⟨w5.heap.size, 0, none⟩) 1 1 [(x0, x1)] (w5.heap.size + 1) (j + 1) rfl rfl rfl ?_ ?_ ?_ ?_ ?_
                   · simpa using Htl.out
                   · exact own5.alloc _
                   · exact SlD.one (by simp [go_sem]) (by simp [go_sem]) (Nat.lt_succ_self _)
                   · omega
                   · omega
                   · exact size2 (by assumption)
                   intro A3 c3 w6 own6 hg6)
                | (refine step_appendN _ rfl _ _ rfl w1.heap.size (.slice A2 j c2) j ([] ++ L.take j) ?_ rfl ?_ (some ⟨w1.heap.size + 1, 0, none⟩) 1 1 [(x0, x1)] (w1.heap.size + 1 + 1) (j + 1) rfl rfl rfl ?_ ?_ ?_ ?_ ?_
                   · simpa using Htl.out
                   · exact own5
                   · exact SlD.one (hg5.cell (by simp [go_sem]) (by simp [Value.ownBlock])) (hg5.cell (by simp [go_sem]) (by simp [Value.ownBlock])) (Nat.lt_succ_self _)
                   · omega
                   · omega
                   · exact size2 (by assumption)
                   intro A3 c3 w6 own6 hg6)
                | (refine step_appendN _ rfl _ _ rfl w1.heap.size (.slice A2 j c2) j ([] ++ L.take j) ?_ rfl ?_ (some ⟨w1.heap.size, 0, none⟩) 1 1 [(x0, x1)] (w1.heap.size + 1) (j + 1) rfl rfl rfl ?_ ?_ ?_ ?_ ?_
                   · simpa using Htl.out
                   · exact own5
                   · exact SlD.one (hg5.cell (by simp [go_sem]) (by simp [Value.ownBlock])) (hg5.cell (by simp [go_sem]) (by simp [Value.ownBlock])) (Nat.lt_succ_self _)
                   · omega
                   · omega
                   · exact size2 (by assumption)
                   intro A3 c3 w6 own6 hg6))
            all_goals
              rename_i hT
              have hd6 := hT.2.2
              rw [List.nil_append] at own6
              have hl6 : (L.take j ++ [(x0, x1)]).length = j + 1 := by rw [List.length_append, Htl.out]; rfl
              have hsd6 := (Hsd.out.below hd6)
              have hdl : (L.drop j).length = L.length - j := by simp
              have hfull : Hid (∀ A7 c7 w7, w7.ownsRow w1.heap.size 161 2 (.slice A7 (L.length + 1) c7) (L.length + 1) (dcs (L.take j ++ [(x0, x1)] ++ L.drop j)) → w6.grownBy w7 (Value.slice A3 (j + 1) c3).ownBlock →
                  (sortD (l.take (k + 1))).length = L.length + 1 ∧ w7.ownsRow w.heap.size 161 2 (.slice A7 (L.length + 1) c7) (L.length + 1) (dcs (sortD (l.take (k + 1)))) ∧ Below w.heap.size w w7) := Lib.hid (by
                intro A7 c7 w7 o7 g7
                rw [← Hnew.out] at o7
                have e1 : (sortD (l.take (k + 1))).length = L.length + 1 := by have := o7.1; rw [dcs_length] at this; omega
                exact ⟨e1, o7.mono hbw.size, below_kept hbw (Nat.le_refl _) (below_grown hd6 g7 (Nat.le_refl _) (fun k hk => (own6.lt k hk).1))⟩)
              have Hl6 := Lib.hid hl6
              have Hdl := Lib.hid hdl
              have Hsd6 := Lib.hid hsd6
              clear hT hl6 hdl hsd6
              go_wp2_with (at_builtin
                           refine wpList_appendN _ rfl _ _ rfl w1.heap.size (.slice A3 (j + 1) c3) (j + 1) (L.take j ++ [(x0, x1)]) Hl6.out rfl own6 (Option.map (fun x => x.add (j * 2)) A') 0 (c' - j) (L.drop j) w1.heap.size (L.length + 1) ?_ rfl ?_ ?_ ?_ ?_ ?_ ?_
                           · omega
                           · simp <;> omega
                           · exact fun h0 => by simp at h0; omega
                           · omega
                           · omega
                           · exact hd6.size
                           intro A7 c7 w7 own7 hg7)
              have hf := hfull.out A7 c7 w7 own7 hg7
              have Hf := Lib.hid hf
              clear hf own7 hg7 hfull hd6 own6
              go_wp2
              go_roundw
              case rel =>
                obtain ⟨e1, o7, b7⟩ := Hf.out
                exact ⟨k + 1, A7, c7, by omega, by go_num, by rw [e1], by rw [e1]; exact o7, b7⟩
              case measure => simp [intOf]; omega
    · obtain rfl : k = l.length := by omega
      rw [List.take_length] at ho
      have hres : GivD w (sortD l) (.returned (.slice A' (sortD l).length c')) wr := ⟨A', c', rfl, ho, hb⟩
      have Hres := Lib.hid hres
      clear ho hb h hres
      rw [List.take_length]
      go_wp2
      go_ret
      exact Hres.out

end Go.Proofs.Ytfkkbjbgjmaciaa

/- The model's poMap, poTurn, poMirror. -/
namespace Go.Proofs.Ytfkkbjbgjmaciaa
set_option linter.unusedVariables false
open Go.RowKit

theorem spec_l1Least (a b : Int) (w : World) : Calls Try.prog 111 #[.int .i64 a, .int .i64 b] w fun e w' => e = .returned (.int .i64 (min a b)) ∧ w = w' := by
  by_cases h : a < b
  · have e : min a b = a := by omega
    rw [e]
    clear e
    go_enter Try.func111, Try.ntmps111
    go_wp2
    go_ret
    exact ⟨rfl, rfl⟩
  · have e : min a b = b := by omega
    rw [e]
    clear e
    go_enter Try.func111, Try.ntmps111
    go_wp2
    go_ret
    exact ⟨rfl, rfl⟩
theorem spec_l1Most (a b : Int) (w : World) : Calls Try.prog 179 #[.int .i64 a, .int .i64 b] w fun e w' => e = .returned (.int .i64 (max a b)) ∧ w = w' := by
  by_cases h : b < a
  · have e : max a b = a := by omega
    rw [e]
    clear e
    go_enter Try.func179, Try.ntmps179
    go_wp2
    go_ret
    exact ⟨rfl, rfl⟩
  · have e : max a b = b := by omega
    rw [e]
    clear e
    go_enter Try.func179, Try.ntmps179
    go_wp2
    go_ret
    exact ⟨rfl, rfl⟩

theorem spec_poSorted_n (A : Option Addr) (n c B : Nat) (l : List (Int × Int)) (w : World) (hn : l.length = n) (h : SlD w B A l) (hB : B ≤ w.heap.size) (hl : n ≤ 1000) :
    Calls Try.prog 186 #[.slice A n c] w (GivD w (sortD l)) := by
  subst hn
  exact spec_poSorted A c B l w h hB hl

end Go.Proofs.Ytfkkbjbgjmaciaa
