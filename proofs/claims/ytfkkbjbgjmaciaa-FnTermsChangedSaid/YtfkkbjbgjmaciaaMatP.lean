/- multiplyAll: products of squares, in order: by times, and by timesWithin. -/
import Derived.Test.YtfkkbjbgjmaciaaMatL
namespace Go.Proofs.Ytfkkbjbgjmaciaa
set_option linter.unusedVariables false
open Go.RowKit

/-- what lies in a block may be written -/
def Fz (w : World) (g : Nat) : Prop := w.frozen? ⟨g, 0, none⟩ = false ∧ w.frozen? ⟨g, 1, none⟩ = false ∧ w.frozen? ⟨g, 2, none⟩ = false ∧ w.frozen? ⟨g, 3, none⟩ = false
theorem Fz.new (w : World) (t : TypeId) (a b c d : Int) : Fz (w.alloc (.cells #[.int .i64 a, .int .i64 b, .int .i64 c, .int .i64 d] t)) w.heap.size := by
  unfold Fz
  simp [go_sem]
theorem Fz.kept {w w' : World} {g : Nat} (h : Fz w g) (hg : g < w.heap.size) (hb : Below w.heap.size w w') : Fz w' g :=
  ⟨(hb.frozen (p := ⟨g, 0, none⟩) hg).trans h.1, (hb.frozen (p := ⟨g, 1, none⟩) hg).trans h.2.1, (hb.frozen (p := ⟨g, 2, none⟩) hg).trans h.2.2.1, (hb.frozen (p := ⟨g, 3, none⟩) hg).trans h.2.2.2⟩
/-- four numbers are stored in a block -/
def sto4 (w : World) (g : Nat) (a b c d : Int) : World := (((w.setCell ⟨g, 0, none⟩ (.int .i64 a)).setCell ⟨g, 1, none⟩ (.int .i64 b)).setCell ⟨g, 2, none⟩ (.int .i64 c)).setCell ⟨g, 3, none⟩ (.int .i64 d)
theorem bx_sto4 {w : World} {g : Nat} {a b c d : Int} (h : Bx w g a b c d) (e f i j : Int) : Bx (sto4 w g e f i j) g e f i j := by
  have hg := h.lt
  obtain ⟨h0, h1, h2, h3⟩ := h
  unfold sto4 Bx
  simp [go_sem, h0, h1, h2, h3]
theorem bx_sto4_far {w : World} {g g' : Nat} {a b c d : Int} (h : Bx w g' a b c d) (hne : g' ≠ g) (e f i j : Int) : Bx (sto4 w g e f i j) g' a b c d := by
  obtain ⟨h0, h1, h2, h3⟩ := h
  unfold sto4 Bx
  simp [go_sem, h0, h1, h2, h3, hne]
theorem fz_sto4 {w : World} {g g' : Nat} (h : Fz w g') (e f i j : Int) : Fz (sto4 w g e f i j) g' := by
  obtain ⟨h0, h1, h2, h3⟩ := h
  unfold sto4 Fz
  simp [go_sem, h0, h1, h2, h3]
theorem below_put4 {B g : Nat} {w0 w : World} (h : Below B w0 w) (hg : B ≤ g) (a b c d : Int) : Below B w0 (sto4 w g a b c d) := below_set4 h hg

/-- a slice's value leads to the squares, below block B -/
def SlQ (w : World) (B : Nat) (A : Option Addr) (L : List M4) : Prop :=
  0 < L.length → ∃ b off, A = some ⟨b, off, none⟩ ∧ b < B ∧
    ∀ j, j < L.length → w.cell? ⟨b, off + j * 4, none⟩ = some (.int .i64 (L.getD j M4.one).a) ∧ w.cell? ⟨b, off + j * 4 + 1, none⟩ = some (.int .i64 (L.getD j M4.one).b) ∧
      w.cell? ⟨b, off + j * 4 + 2, none⟩ = some (.int .i64 (L.getD j M4.one).c) ∧ w.cell? ⟨b, off + j * 4 + 3, none⟩ = some (.int .i64 (L.getD j M4.one).d)
theorem SlQ.below {w w' : World} {B : Nat} {A : Option Addr} {L : List M4} (h : SlQ w B A L) (hb : Below B w w') : SlQ w' B A L := fun h0 => by
  obtain ⟨b, off, e, hB, hc⟩ := h h0
  exact ⟨b, off, e, hB, fun j hj => ⟨(hb.cell hB).trans (hc j hj).1, (hb.cell hB).trans (hc j hj).2.1, (hb.cell hB).trans (hc j hj).2.2.1, (hb.cell hB).trans (hc j hj).2.2.2⟩⟩
theorem SlQ.mono {w : World} {B B' : Nat} {A : Option Addr} {L : List M4} (h : SlQ w B A L) (hB : B ≤ B') : SlQ w B' A L := fun h0 => by
  obtain ⟨b, off, e, hb, hc⟩ := h h0
  exact ⟨b, off, e, by omega, hc⟩
/-- the product, in order -/
def prodF (f : M4 → M4 → M4) (L : List M4) : M4 := L.foldl f M4.one
theorem prodF_take (f : M4 → M4 → M4) (L : List M4) (k : Nat) (h : k < L.length) : prodF f (L.take (k + 1)) = f (prodF f (L.take k)) (L.getD k M4.one) := by
  unfold prodF
  rw [List.take_succ_eq_append_getElem h, List.foldl_append]
  simp [h]

/-- a square comes back -/
def RetQ (m : M4) (w : World) (e : Ending) (w' : World) : Prop := e = .returned (.agg #[.int .i64 m.a, .int .i64 m.b, .int .i64 m.c, .int .i64 m.d]) ∧ Below w.heap.size w w'

set_option maxHeartbeats 1600000 in
theorem impl_mulAll_T (A : Option Addr) (n c B : Nat) (L : List M4) (w : World) (hn : L.length = n) (h : SlQ w B A L) (hB : B ≤ w.heap.size) (hl : n ≤ 1000000)
    (hbd : ∀ k, k < L.length → ∃ P Q, (prodF M4.mul (L.take k)).In P ∧ (L.getD k M4.one).In Q ∧ P * Q ≤ 4000000000000000000) :
    Calls Try.prog 130 #[.func (.func 131) #[] #[], .slice A n c] w (RetQ (prodF M4.mul L) w) := by
  subst hn
  have Hbd := Lib.hid hbd
  clear hbd
  go_enter Try.func130, Try.ntmps130
  go_wp2_with fail
  refine (impl_unitSquare _).mono ?_
  rintro e1 w1 ⟨rfl, hb1⟩
  have R1 := (Bx.new w 111 0 0 0 0).kept hb1
  have F1 := (Fz.new w 111 0 0 0 0).kept (Bx.new w 111 0 0 0 0).lt hb1
  have R2 := R1.lt
  have hd := ((Below.refl w.heap.size w).alloc (Nat.le_refl _) _).trans (hb1.mono (by simp))
  obtain ⟨g, hg⟩ : ∃ g, g = w1.heap.size := ⟨_, rfl⟩
  obtain ⟨wz, hwz⟩ : ∃ wz, wz = w1.alloc (.cells #[.int .i64 1, .int .i64 0, .int .i64 0, .int .i64 1] 111) := ⟨_, rfl⟩
  have Q1 : Bx wz g 1 0 0 1 := by rw [hwz, hg]; exact Bx.new w1 _ 1 0 0 1
  have Q2 : Fz wz g := by rw [hwz, hg]; exact Fz.new w1 _ 1 0 0 1
  have R3 : Bx wz w.heap.size 0 0 0 0 := by rw [hwz]; exact R1.alloc _
  have F3 : Fz wz w.heap.size := by rw [hwz]; exact F1.kept R1.lt ((Below.refl _ _).alloc (Nat.le_refl _) _)
  have hdz : Below w.heap.size w wz := by rw [hwz]; exact below_alloc1 hd (Nat.le_refl _) _
  have hgz : w.heap.size < g := by rw [hg]; exact R2
  have Hq1 := Lib.hid Q1
  have Hq2 := Lib.hid Q2
  have Hr3 := Lib.hid R3
  have Hf3 := Lib.hid F3
  have Hdz := Lib.hid hdz
  clear R1 F1 R2 hd hb1 Q1 Q2 R3 F3 hdz
  go_wp2
  rw [← hwz, ← hg]
  clear hwz hg
  go_loopw [11] (fun i wr => ∃ k : Nat, k ≤ L.length ∧ i = .int .i64 k ∧ Bx wr g (prodF M4.mul (L.take k)).a (prodF M4.mul (L.take k)).b (prodF M4.mul (L.take k)).c (prodF M4.mul (L.take k)).d ∧ Fz wr g ∧ Bx wr w.heap.size 0 0 0 0 ∧ Fz wr w.heap.size ∧ Below w.heap.size w wr) (fun i _ => L.length - (intOf i).toNat)
  case atStart => exact ⟨0, Nat.zero_le _, rfl, Hq1.out, Hq2.out, Hr3.out, Hf3.out, Hdz.out⟩
  case round =>
    clear Hq1 Hq2 Hr3 Hf3 Hdz
    obtain ⟨k, hk, rfl, hq, hfq, hr, hfr, hb⟩ := hrel
    by_cases hlt : k < L.length
    · obtain ⟨b', off, rfl, hbB, hcell⟩ := h (by omega)
      obtain ⟨x0, x1, x2, x3⟩ := hcell k hlt
      have i0 : (0 : Int) ≤ (k : Int) := by omega
      have i1 : (k : Int) < (L.length : Int) := by omega
      have hst := prodF_take M4.mul L k hlt
      obtain ⟨P, Q, hP, hQ, hPQ⟩ := Hbd.out k hlt
      clear hcell h
      generalize prodF M4.mul (L.take k) = m at *
      generalize L.getD k M4.one = x at *
      obtain ⟨a, b, c', d⟩ := m
      obtain ⟨e, f, i, j⟩ := x
      dsimp only at *
      have Hst := Lib.hid hst
      replace x0 : wr.cell? ⟨b', off + k * 4, none⟩ = some (.int .i64 e) := (hb.cell (p := ⟨b', _, none⟩) (show b' < w.heap.size by omega)).trans x0
      replace x1 : wr.cell? ⟨b', off + k * 4 + 1, none⟩ = some (.int .i64 f) := (hb.cell (p := ⟨b', _, none⟩) (show b' < w.heap.size by omega)).trans x1
      replace x2 : wr.cell? ⟨b', off + k * 4 + 2, none⟩ = some (.int .i64 i) := (hb.cell (p := ⟨b', _, none⟩) (show b' < w.heap.size by omega)).trans x2
      replace x3 : wr.cell? ⟨b', off + k * 4 + 3, none⟩ = some (.int .i64 j) := (hb.cell (p := ⟨b', _, none⟩) (show b' < w.heap.size by omega)).trans x3
      have y0 := hr.lt
      have y1 := hq.lt
      have y2 : b' < wr.heap.size := by omega
      have Hr := Lib.hid hr
      have Hq := Lib.hid hq
      have Hfr := Lib.hid hfr
      have Hfq := Lib.hid hfq
      have Hb := Lib.hid hb
      obtain ⟨q0, q1, q2, q3⟩ := hq
      clear hst hr hfr hfq hb
      go_wp2_with fail
      refine (impl_times a b c' d e f i j P Q _ hP hQ hPQ).mono ?_
      rintro e1 w2 ⟨rfl, hb2⟩
      have G1 := (Hq.out.alloc _).kept hb2
      have G2 := (Hfq.out.kept y1 ((Below.refl _ _).alloc (Nat.le_refl _) _)).kept (by simp; omega) hb2
      have G3 := (Hr.out.alloc _).kept hb2
      have G4 := (Hfr.out.kept y0 ((Below.refl _ _).alloc (Nat.le_refl _) _)).kept (by simp; omega) hb2
      have G5 := below_kept (below_alloc1 Hb.out (Nat.le_refl _) _) (Nat.le_refl _) hb2
      have y3 := G1.lt
      have G6 := Lib.hid (bx_sto4 G1 (a * e + b * i) (a * f + b * j) (c' * e + d * i) (c' * f + d * j))
      have G7 := Lib.hid (fz_sto4 (g := g) G2 (a * e + b * i) (a * f + b * j) (c' * e + d * i) (c' * f + d * j))
      have G8 := Lib.hid (bx_sto4_far G3 (show w.heap.size ≠ g by omega) (a * e + b * i) (a * f + b * j) (c' * e + d * i) (c' * f + d * j))
      have G9 := Lib.hid (fz_sto4 (g := g) G4 (a * e + b * i) (a * f + b * j) (c' * e + d * i) (c' * f + d * j))
      have G10 := Lib.hid (below_put4 (g := g) G5 (by omega) (a * e + b * i) (a * f + b * j) (c' * e + d * i) (c' * f + d * j))
      obtain ⟨q0, q1, q2, q3⟩ := G1
      obtain ⟨f0, f1, f2, f3⟩ := G2
      clear hb2 G3 G4 G5 x0 x1 x2 x3
      go_wp2
      go_roundw
      case rel => exact ⟨k + 1, by omega, by go_num, by rw [Hst.out]; exact G6.out, G7.out, G8.out, G9.out, G10.out⟩
      case measure => simp [intOf]; omega
    · obtain rfl : k = L.length := by omega
      rw [List.take_length] at hq
      clear h
      obtain ⟨q0, q1, q2, q3⟩ := hq
      obtain ⟨f0, f1, f2, f3⟩ := hfr
      have hE := below_put4 (g := w.heap.size) hb (Nat.le_refl _) (prodF M4.mul L).a (prodF M4.mul L).b (prodF M4.mul L).c (prodF M4.mul L).d
      have hR := bx_sto4 hr (prodF M4.mul L).a (prodF M4.mul L).b (prodF M4.mul L).c (prodF M4.mul L).d
      unfold sto4 at hE hR
      have hRz : RetQ (prodF M4.mul L) w (.returned (.agg #[.int .i64 (prodF M4.mul L).a, .int .i64 (prodF M4.mul L).b, .int .i64 (prodF M4.mul L).c, .int .i64 (prodF M4.mul L).d])) _ := ⟨rfl, hE⟩
      have HR := Lib.hid hRz
      clear hRz hE
      generalize (prodF M4.mul L).a = a at *
      generalize (prodF M4.mul L).b = b at *
      generalize (prodF M4.mul L).c = c1 at *
      generalize (prodF M4.mul L).d = d at *
      obtain ⟨r0, r1, r2, r3⟩ := hr
      go_wp2
      refine bodyPost_ret (v := .agg #[.int .i64 a, .int .i64 b, .int .i64 c1, .int .i64 d]) ?hr rfl ?hR
      case hr => simp [results, Try.results130, go_sem, r0, r1, r2, r3]
      case hR => exact HR.out

end Go.Proofs.Ytfkkbjbgjmaciaa
