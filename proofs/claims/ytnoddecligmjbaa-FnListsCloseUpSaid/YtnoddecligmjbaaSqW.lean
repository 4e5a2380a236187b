/- squareOfTerms; MatrixOfList and ClosesUp: both contracts, and the laws' walks. -/
import Derived.Test.YtnoddecligmjbaaSqT
import Derived.Test.YtnoddecligmjbaaMlS
import Derived.Test.YtnoddecligmjbaaMatE
namespace Go.Proofs.Ytnoddecligmjbaa
set_option linter.unusedVariables false
open Go.RowKit

/-- the first squares, zeros behind them -/
def sqF (l : List Int) (k : Nat) : List M4 := (l.take k).map sqT ++ List.replicate (l.length - k) M4.zero
theorem sqF_zero (l : List Int) : sqF l 0 = List.replicate l.length M4.zero := by simp [sqF]
theorem sqF_all (l : List Int) : sqF l l.length = l.map sqT := by simp [sqF]
theorem sqF_set (l : List Int) (k : Nat) (h : k < l.length) : (sqF l k).set k (sqT (l.getD k 0)) = sqF l (k + 1) := by
  unfold sqF
  have e : l.length - k = (l.length - (k + 1)) + 1 := by omega
  rw [e, List.replicate_succ, List.set_append_right _ _ (by simp; omega)]
  have e2 : k - (List.map sqT (List.take k l)).length = 0 := by simp; omega
  rw [e2, List.set_cons_zero, List.take_succ_eq_append_getElem h, List.map_append, List.append_assoc]
  congr 1
  simp [h]

theorem below_set4x {B g a : Nat} {w0 w : World} (h : Below B w0 w) (hg : B ≤ g) (x0 x1 x2 x3 : Value) : Below B w0 ((((w.setCell ⟨g, a, none⟩ x0).setCell ⟨g, a + 1, none⟩ x1).setCell ⟨g, a + 2, none⟩ x2).setCell ⟨g, a + 3, none⟩ x3) :=
  (((h.setCell (p := ⟨g, a, none⟩) hg _).setCell (p := ⟨g, a + 1, none⟩) hg _).setCell (p := ⟨g, a + 2, none⟩) hg _).setCell (p := ⟨g, a + 3, none⟩) hg _
theorem zb_set4x {g a z : Nat} {w : World} (h : Zb w z) (hne : z ≠ g) (x0 x1 x2 x3 : Value) : Zb ((((w.setCell ⟨g, a, none⟩ x0).setCell ⟨g, a + 1, none⟩ x1).setCell ⟨g, a + 2, none⟩ x2).setCell ⟨g, a + 3, none⟩ x3) z := by
  obtain ⟨⟨z0, z1, z2, z3⟩, ⟨f0, f1, f2, f3⟩⟩ := h
  unfold Zb Bx Fz
  simp [go_sem, z0, z1, z2, z3, f0, f1, f2, f3, hne]

set_option maxHeartbeats 1600000 in
theorem impl_squareOfTerms (A : Option Addr) (n c B : Nat) (l : List Int) (w : World) (hn : l.length = n) (h : SlI w B A l) (hB : B ≤ w.heap.size) (hsm : Small l) (hl : n ≤ 10) :
    Calls Try.prog 150 #[.slice A n c] w (RetQ (mlR l) w) := by
  subst hn
  obtain ⟨i0, hi, hz0, hz1, hz2⟩ := info_parts infoQ
  have hbytes : i0.bytes * l.length ≤ 281474976710656 := by rw [hz2]; omega
  have hmax : l.length ≤ maxLen := by unfold maxLen; omega
  have HP := Lib.hid (prodSq l)
  have HBD := Lib.hid (prodSq_bd l hsm hl)
  generalize mlR l = R at *
  obtain ⟨p, q, r, s⟩ := R
  have Hl := Lib.hid hl
  clear hl
  go_enter Try.func150, Try.ntmps150
  go_wp2_with (at_make; refine wpList_make_full _ rfl _ _ _ rfl (w.heap.size + 1) 110 i0 (.agg #[.int .i64 0, .int .i64 0, .int .i64 0, .int .i64 0]) 4 Try.underlying128 hi hz0 hz1 _ _ _ _ l.length rfl rfl rfl rfl hbytes hmax (by simp) ?_; intro w3 hown3 hgrow3)
  have hb3 : Below w.heap.size w w3 := ((Below.refl w.heap.size w).alloc (Nat.le_refl _) _).grown hgrow3 (by simp) (fun _ e => by cases e)
  have hz : Zb w3 w.heap.size := (Zb.new w 110).kept ((Below.refl _ _).grown hgrow3 (Nat.le_refl _) (fun _ e => by cases e))
  have hq : Qw w3 (w.heap.size + 1) (w.heap.size + 1) l.length (List.replicate l.length M4.zero) := by
    have e := Qw.made hown3
    simpa using e
  rw [← sqF_zero l] at hq
  obtain ⟨g, hg⟩ : ∃ g, g = w.heap.size + 1 := ⟨_, rfl⟩
  rw [← hg] at hq ⊢
  have Hb3 := Lib.hid hb3
  have Hz := Lib.hid hz
  have Hq := Lib.hid hq
  have H := Lib.hid h
  clear hown3 hgrow3 hb3 hz hq hbytes hmax hz0 hz1 hz2 hi h
  have yg : w.heap.size < g := by omega
  clear hg
  go_loopw [4, 5, 11] (fun _ _ i wr => ∃ k : Nat, k ≤ l.length ∧ i = .int .i64 k ∧ Qw wr g g l.length (sqF l k) ∧ Zb wr w.heap.size ∧ Below w.heap.size w wr) (fun _ _ i _ => l.length - (intOf i).toNat)
  case atStart => exact ⟨0, Nat.zero_le _, rfl, Hq.out, Hz.out, Hb3.out⟩
  case round =>
    clear Hq Hz Hb3
    obtain ⟨k, hk, rfl, hq, hz, hb⟩ := hrel
    have n10 : (l.length : Int) ≤ 10 := by have := Hl.out; omega
    by_cases hlt : k < l.length
    · have i0 : (0 : Int) ≤ (k : Int) := by omega
      have i1 : (k : Int) < (l.length : Int) := by omega
      obtain ⟨b', off, rfl, hbB, hcell⟩ := H.out (by omega)
      have x0 := (hb.cell (p := ⟨b', off + k, none⟩) (show b' < w.heap.size by omega)).trans (hcell k hlt)
      have y1 := hz.1.lt
      have yb : b' < wr.heap.size := by omega
      have yq := hq.lt.2
      have hst := sqF_set l k hlt
      obtain ⟨c0, c1, c2, c3⟩ := hq.cell k hlt
      have f0 := hq.frozen (k * 4)
      have f1 := hq.frozen (k * 4 + 1)
      have f2 := hq.frozen (k * 4 + 2)
      have f3 := hq.frozen (k * 4 + 3)
      clear hcell
      generalize l.getD k 0 = x at *
      have hq2 := hq.stored k hlt x (-1) 1 0
      have hst2 : (sqF l k).set k ⟨x, -1, 1, 0⟩ = sqF l (k + 1) := hst
      rw [hst2] at hq2
      have hb2 := below_set4x hb (g := g) (a := k * 4) (Nat.le_of_lt yg) (.int .i64 x) (.int .i64 (-1)) (.int .i64 1) (.int .i64 0)
      have hz2 := zb_set4x hz (g := g) (a := k * 4) (Nat.ne_of_lt yg) (.int .i64 x) (.int .i64 (-1)) (.int .i64 1) (.int .i64 0)
      have Hq2 := Lib.hid hq2
      have Hb2 := Lib.hid hb2
      have Hz2 := Lib.hid hz2
      generalize (sqF l k).getD k M4.one = z at *
      clear hq2 hb2 hz2 hst hst2 hq hz hb
      go_wp2
      go_roundw
      case rel => exact ⟨k + 1, by omega, by go_num, Hq2.out, Hz2.out, Hb2.out⟩
      case measure => simp [intOf]; omega
    · obtain rfl : k = l.length := by omega
      rw [sqF_all] at hq
      have hs := hq.slq
      have y1 := hz.1.lt
      have HB := Lib.hid hb
      have HZ := Lib.hid hz
      clear hq hz hb H
      go_wp2_with fail
      refine (impl_mulAll_T _ l.length _ _ (l.map sqT) _ (by simp) hs (Nat.le_refl _) (by have := Hl.out; omega) HBD.out).mono ?_
      rw [HP.out]
      rintro e w1 ⟨rfl, hb1⟩
      obtain ⟨⟨z0, z1, z2, z3⟩, ⟨f0, f1, f2, f3⟩⟩ := HZ.out.kept hb1
      have hE := Lib.hid (below_set4 (g := w.heap.size) (x0 := .int .i64 p) (x1 := .int .i64 q) (x2 := .int .i64 r) (x3 := .int .i64 s) (below_kept HB.out (Nat.le_refl _) hb1) (Nat.le_refl _))
      clear hb1 hs HBD HP HB HZ
      go_wp2
      refine bodyPost_ret (v := .agg #[.int .i64 p, .int .i64 q, .int .i64 r, .int .i64 s]) ?hr rfl ?hR
      case hr => simp [results, Try.results150, go_sem, z0, z1, z2, z3]
      case hR => exact ⟨rfl, hE.out⟩
end Go.Proofs.Ytnoddecligmjbaa
