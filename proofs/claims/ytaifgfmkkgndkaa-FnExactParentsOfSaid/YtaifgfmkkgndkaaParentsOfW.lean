/- ParentsOf: the model's and the program's contracts, and the law's walk. -/
import Derived.Test.YtaifgfmkkgndkaaParS
import Derived.Test.YtaifgfmkkgndkaaParI
import Derived.Test.YtaifgfmkkgndkaaParentsOfC
namespace Go.Proofs.Ytaifgfmkkgndkaa
set_option linter.unusedVariables false
open Go.RowKit

/-- the boxes of the argument and of two results -/
def P3 (w wr : World) (a b : Int) : Prop := Bx2 wr w.heap.size a b ∧ Bx2 wr (w.heap.size + 1) 0 0 ∧ Bx2 wr (w.heap.size + 1 + 1) 0 0 ∧ Below w.heap.size w wr
theorem P3.kept {w w1 w2 : World} {a b : Int} (h : P3 w w1 a b) (hb : Below w1.heap.size w1 w2) : P3 w w2 a b :=
  ⟨h.1.kept hb, h.2.1.kept hb, h.2.2.1.kept hb, below_kept h.2.2.2 (Nat.le_refl _) hb⟩
theorem P3.start (w : World) (t : TypeId) (a b : Int) : P3 w (((w.alloc (.cells #[.int .i64 a, .int .i64 b] t)).alloc (.cells #[.int .i64 0, .int .i64 0] t)).alloc (.cells #[.int .i64 0, .int .i64 0] t)) a b := by
  refine ⟨?_, ?_, ?_, ?_⟩
  · simp [Bx2, go_sem]
  · simp [Bx2, go_sem]
  · simp [Bx2, go_sem]
  · exact below_three w _ _ _
def V3 (x y u v : Int) (ok : Bool) : Ending := .returned (.tuple #[.agg #[.int .i64 x, .int .i64 y], .agg #[.int .i64 u, .int .i64 v], .bool ok])

set_option maxHeartbeats 1600000 in
theorem spec_ParentsOf_no (a b : Int) (w : World) (h : inB1 a b = false) : Calls Try.prog 25 #[.agg #[.int .i64 a, .int .i64 b]] w fun e w' => e = V3 0 0 0 0 false ∧ Below w.heap.size w w' := by
  have H := Lib.hid (spec_nbInner a b)
  rw [h] at H
  clear h
  go_enter Try.func25, Try.ntmps25
  go_wp2_with fail
  refine (H.out _).mono ?_
  rintro e w1 ⟨rfl, hb⟩
  have K := Lib.hid ((P3.start w 25 a b).kept hb)
  clear hb
  obtain ⟨⟨⟨p0, p1⟩, p2, p3⟩, ⟨⟨q0, q1⟩, q2, q3⟩, ⟨⟨r0, r1⟩, r2, r3⟩, hbl⟩ := id K.out
  have k0 := K.out.1.lt
  have k1 := K.out.2.1.lt
  have k2 := K.out.2.2.1.lt
  go_wp2
  exact bodyPost_ret (v := .tuple #[.agg #[.int .i64 0, .int .i64 0], .agg #[.int .i64 0, .int .i64 0], .bool false]) (by simp [results, Try.results25, go_sem, q0, q1, r0, r1]) rfl ⟨rfl, below_setP (below_setP hbl (by omega)) (by omega)⟩
set_option maxHeartbeats 1600000 in
theorem impl_ParentsOf_no (a b : Int) (w : World) (h : inB1 a b = false) : Calls Try.prog 26 #[.agg #[.int .i64 a, .int .i64 b]] w fun e w' => e = V3 0 0 0 0 false ∧ Below w.heap.size w w' := by
  have H := Lib.hid (impl_hasParents a b)
  rw [h] at H
  clear h
  go_enter Try.func26, Try.ntmps26
  go_wp2_with fail
  refine (H.out _).mono ?_
  rintro e w1 ⟨rfl, hb⟩
  have K := Lib.hid ((P3.start w 25 a b).kept hb)
  clear hb
  obtain ⟨⟨⟨p0, p1⟩, p2, p3⟩, ⟨⟨q0, q1⟩, q2, q3⟩, ⟨⟨r0, r1⟩, r2, r3⟩, hbl⟩ := id K.out
  have k0 := K.out.1.lt
  have k1 := K.out.2.1.lt
  have k2 := K.out.2.2.1.lt
  go_wp2
  exact bodyPost_ret (v := .tuple #[.agg #[.int .i64 0, .int .i64 0], .agg #[.int .i64 0, .int .i64 0], .bool false]) (by simp [results, Try.results26, go_sem, q0, q1, r0, r1]) rfl ⟨rfl, below_setP (below_setP hbl (by omega)) (by omega)⟩
set_option maxRecDepth 100000 in
set_option maxHeartbeats 1600000 in
theorem spec_ParentsOf_yes (a b x y u v : Int) (w : World) (h : inB1 a b = true) (hp : Par (a, b) (x, y) (u, v)) : Calls Try.prog 25 #[.agg #[.int .i64 a, .int .i64 b]] w fun e w' => e = V3 x y u v true ∧ Below w.heap.size w w' := by
  obtain ⟨g1, g2, g3⟩ := inB1_iff.1 h
  have H := Lib.hid (spec_nbInner a b)
  have HP := Lib.hid (fun w => spec_nbParents a b x y u v w g2 g3 g1 hp)
  rw [h] at H
  clear h hp g1 g2 g3
  go_enter Try.func25, Try.ntmps25
  go_wp2_with fail
  refine (H.out _).mono ?_
  rintro e w1 ⟨rfl, hb⟩
  have K := Lib.hid ((P3.start w 25 a b).kept hb)
  clear hb
  obtain ⟨⟨⟨p0, p1⟩, p2, p3⟩, ⟨⟨q0, q1⟩, q2, q3⟩, ⟨⟨r0, r1⟩, r2, r3⟩, hbl⟩ := id K.out
  have k0 := K.out.1.lt
  have k1 := K.out.2.1.lt
  have k2 := K.out.2.2.1.lt
  go_wp2_with fail
  clear p0 p1 p2 p3 q0 q1 q2 q3 r0 r1 r2 r3 k0 k1 k2 hbl
  refine (HP.out _).mono ?_
  rintro e w2 ⟨rfl, hb⟩
  replace K := Lib.hid (K.out.kept hb)
  clear hb
  obtain ⟨w3, hw3⟩ : ∃ w3, w3 = (w2.alloc (.cells #[.int .i64 x, .int .i64 y] 25)).alloc (.cells #[.int .i64 u, .int .i64 v] 25) := ⟨_, rfl⟩
  have B5 : Bx2 w3 w2.heap.size x y := by rw [hw3]; exact (Bx2.new _ _ _ _).alloc _
  have B6 : Bx2 w3 (w2.heap.size + 1) u v := by rw [hw3]; have h := Bx2.new (w2.alloc (.cells #[.int .i64 x, .int .i64 y] 25)) 25 u v; simpa using h
  have K3 : Hid (P3 w w3 a b) := Lib.hid (by rw [hw3]; exact K.out.kept (below_two _ _ _))
  have z2 : w.heap.size + 1 + 1 < w2.heap.size := K.out.2.2.1.lt
  clear K
  go_upto_region 4 with fail
  rw [← hw3]
  clear hw3
  have K := K3
  clear K3
  obtain ⟨⟨⟨p0, p1⟩, p2, p3⟩, ⟨⟨q0, q1⟩, q2, q3⟩, ⟨⟨r0, r1⟩, r2, r3⟩, hbl⟩ := id K.out
  have k0 := K.out.1.lt
  have k1 := K.out.2.1.lt
  have k2 := K.out.2.2.1.lt
  obtain ⟨⟨s0, s1⟩, s2, s3⟩ := id B5
  obtain ⟨⟨t0, t1⟩, t2, t3⟩ := id B6
  have k5 := B5.lt
  have k6 := B6.lt
  go_wp2
  go_region
  all_goals (go_wp2; exact bodyPost_ret (v := .tuple #[.agg #[.int .i64 x, .int .i64 y], .agg #[.int .i64 u, .int .i64 v], .bool true]) (by simp [results, Try.results25, go_sem, q0, q1, r0, r1]) rfl ⟨rfl, by first | exact (below_setP (below_setP hbl.drew (by omega)) (by omega)) | exact (below_setP (below_setP hbl (by omega)) (by omega)).drew⟩)

theorem sub_sm {a b : Int} (h : nbB a b = true) {p q : Int} (hp : 0 ≤ p ∧ p ≤ a) (hq : 0 ≤ q ∧ q ≤ b) : Sm (a - p) ∧ Sm (b - q) ∧ Sm p ∧ Sm q := by
  obtain ⟨h1, h2, _⟩ := nbB_iff.1 h
  unfold Sm
  omega
set_option maxRecDepth 100000 in
set_option maxHeartbeats 3200000 in
theorem impl_ParentsOf_yes (a b x y u v : Int) (w : World) (h : inB1 a b = true) (hp : Par (a, b) (x, y) (u, v)) : Calls Try.prog 26 #[.agg #[.int .i64 a, .int .i64 b]] w fun e w' => e = V3 x y u v true ∧ Below w.heap.size w w' := by
  obtain ⟨g1, g2, g3⟩ := inB1_iff.1 h
  obtain ⟨⟨ga, ga6⟩, ⟨gb, gb6⟩, _⟩ := nbB_iff.1 g1
  have H := Lib.hid (impl_hasParents a b)
  have HP := Lib.hid (fun w => impl_oneParent a b w g2 g3 g1)
  have Hp := Lib.hid hp
  have G1 := Lib.hid g1
  rw [h] at H
  clear h hp g1
  go_enter Try.func26, Try.ntmps26
  go_wp2_with fail
  refine (H.out _).mono ?_
  rintro e w1 ⟨rfl, hb⟩
  have K := Lib.hid ((P3.start w 25 a b).kept hb)
  clear hb
  obtain ⟨⟨⟨p0, p1⟩, p2, p3⟩, ⟨⟨q0, q1⟩, q2, q3⟩, ⟨⟨r0, r1⟩, r2, r3⟩, hbl⟩ := id K.out
  have k0 := K.out.1.lt
  have k1 := K.out.2.1.lt
  have k2 := K.out.2.2.1.lt
  go_wp2_with fail
  clear p0 p1 p2 p3 q0 q1 q2 q3 r0 r1 r2 r3 k0 k1 k2 hbl
  refine (HP.out _).mono ?_
  rintro e w2 ⟨m, n, rfl, hC, hb⟩
  replace K := Lib.hid (K.out.kept hb)
  obtain ⟨_, d1, d2⟩ := hC.done
  have l0 := hC.le
  have l1 := hC.p1
  have l2 := hC.p2
  dsimp only at l0 l1 l2 d1 d2
  obtain ⟨y1, y2, y3, y4⟩ := sub_sm G1.out (p := m) (q := n) ⟨l1, l0.2.2.1⟩ ⟨l2, l0.2.2.2⟩
  have HC := Lib.hid (fun w => impl_crossF m n (a - m) (b - n) w y3 y4 y1 y2)
  have D1 := Lib.hid (fun h => (d1 h).uniq g2 Hp.out)
  have D2 := Lib.hid (fun h => (d2 h).uniq g2 Hp.out)
  unfold Sm at y1 y2 y3 y4
  clear hb hC d1 d2 l0 HP H G1 Hp
  generalize crs (m, n) (a - m, b - n) = c at *
  obtain ⟨⟨⟨p0, p1⟩, p2, p3⟩, ⟨⟨q0, q1⟩, q2, q3⟩, ⟨⟨r0, r1⟩, r2, r3⟩, hbl⟩ := id K.out
  have k0 := K.out.1.lt
  have k1 := K.out.2.1.lt
  have k2 := K.out.2.2.1.lt
  have z2 := k2
  go_upto_region 5 with fail
  clear p0 p1 p2 p3 q0 q1 q2 q3 r0 r1 r2 r3 k0 k1 k2 hbl
  obtain ⟨r, hr⟩ : ∃ r, r = a - m := ⟨_, rfl⟩
  obtain ⟨s, hs⟩ : ∃ s, s = b - n := ⟨_, rfl⟩
  rw [← hr, ← hs] at HC D1 D2 ⊢
  clear hr hs y1 y2
  obtain ⟨w3, hw3⟩ : ∃ w3, w3 = (w2.alloc (.cells #[.int .i64 m, .int .i64 n] 25)).alloc (.cells #[.int .i64 r, .int .i64 s] 25) := ⟨_, rfl⟩
  have B5 : Bx2 w3 w2.heap.size m n := by rw [hw3]; exact (Bx2.new _ _ _ _).alloc _
  have B6 : Bx2 w3 (w2.heap.size + 1) r s := by rw [hw3]; have h := Bx2.new (w2.alloc (.cells #[.int .i64 m, .int .i64 n] 25)) 25 r s; simpa using h
  have K3 : Hid (P3 w w3 a b) := Lib.hid (by rw [hw3]; exact K.out.kept (below_two _ _ _))
  rw [← hw3]
  clear hw3 K
  have K := K3
  clear K3
  obtain ⟨⟨⟨p0, p1⟩, p2, p3⟩, ⟨⟨q0, q1⟩, q2, q3⟩, ⟨⟨r0, r1⟩, r2, r3⟩, hbl⟩ := id K.out
  have k0 := K.out.1.lt
  have k1 := K.out.2.1.lt
  have k2 := K.out.2.2.1.lt
  obtain ⟨⟨s0, s1⟩, s2, s3⟩ := id B5
  obtain ⟨⟨t0, t1⟩, t2, t3⟩ := id B6
  have k5 := B5.lt
  have k6 := B6.lt
  go_wp2_with fail
  clear p0 p1 p2 p3 q0 q1 q2 q3 r0 r1 r2 r3 k0 k1 k2 hbl
  clear s0 s1 s2 s3 t0 t1 t2 t3 k5 k6
  refine (HC.out _).mono ?_
  rintro e w4 ⟨rfl, hb⟩
  replace K := Lib.hid (K.out.kept hb)
  have C5 := B5.kept hb
  have C6 := B6.kept hb
  clear hb B5 B6 HC
  obtain ⟨⟨⟨p0, p1⟩, p2, p3⟩, ⟨⟨q0, q1⟩, q2, q3⟩, ⟨⟨r0, r1⟩, r2, r3⟩, hbl⟩ := id K.out
  have k0 := K.out.1.lt
  have k1 := K.out.2.1.lt
  have k2 := K.out.2.2.1.lt
  obtain ⟨⟨s0, s1⟩, s2, s3⟩ := id C5
  obtain ⟨⟨t0, t1⟩, t2, t3⟩ := id C6
  have k5 := C5.lt
  have k6 := C6.lt
  by_cases hc : c < 0
  · obtain ⟨e1, e2⟩ := D1.out hc
    rw [Prod.mk.injEq] at e1 e2
    obtain ⟨rfl, rfl⟩ := e1
    obtain ⟨rfl, rfl⟩ := e2
    clear D1 D2
    go_upto_region 7 with fail
    clear p0 p1 p2 p3 q0 q1 q2 q3 r0 r1 r2 r3 k0 k1 k2 hbl
    clear s0 s1 s2 s3 t0 t1 t2 t3 k5 k6
    obtain ⟨w5, hw5⟩ : ∃ w5, w5 = (((w4.setCell ⟨w2.heap.size, 0, none⟩ (.int .i64 r)).setCell ⟨w2.heap.size, 1, none⟩ (.int .i64 s)).setCell ⟨w2.heap.size + 1, 0, none⟩ (.int .i64 m)).setCell ⟨w2.heap.size + 1, 1, none⟩ (.int .i64 n) := ⟨_, rfl⟩
    have E5 : Bx2 w5 w2.heap.size r s := by rw [hw5]; exact ((bx2_set C5 r s).setFar (by omega) _).setFar (by omega) _
    have E6 : Bx2 w5 (w2.heap.size + 1) m n := by rw [hw5]; exact bx2_set ((C6.setFar (by omega) _).setFar (by omega) _) m n
    have K3 : Hid (P3 w w5 a b) := Lib.hid (by
      rw [hw5]
      obtain ⟨j0, j1, j2, j3⟩ := K.out
      exact ⟨(((j0.setFar (by omega) _).setFar (by omega) _).setFar (by omega) _).setFar (by omega) _, (((j1.setFar (by omega) _).setFar (by omega) _).setFar (by omega) _).setFar (by omega) _, (((j2.setFar (by omega) _).setFar (by omega) _).setFar (by omega) _).setFar (by omega) _, below_setP (below_setP j3 (by omega)) (by omega)⟩)
    rw [← hw5]
    clear hw5 K C5 C6
    have K := K3
    clear K3
    obtain ⟨⟨⟨p0, p1⟩, p2, p3⟩, ⟨⟨q0, q1⟩, q2, q3⟩, ⟨⟨r0, r1⟩, r2, r3⟩, hbl⟩ := id K.out
    have k0 := K.out.1.lt
    have k1 := K.out.2.1.lt
    have k2 := K.out.2.2.1.lt
    obtain ⟨⟨s0, s1⟩, s2, s3⟩ := id E5
    obtain ⟨⟨t0, t1⟩, t2, t3⟩ := id E6
    have k5 := E5.lt
    have k6 := E6.lt
    go_wp2
    go_region
    all_goals (go_wp2; exact bodyPost_ret (v := .tuple #[.agg #[.int .i64 r, .int .i64 s], .agg #[.int .i64 m, .int .i64 n], .bool true]) (by simp [results, Try.results26, go_sem, q0, q1, r0, r1]) rfl ⟨rfl, by first | exact (below_setP (below_setP hbl.drew (by omega)) (by omega)) | exact (below_setP (below_setP hbl (by omega)) (by omega)).drew⟩)
  · obtain ⟨e1, e2⟩ := D2.out (by omega)
    rw [Prod.mk.injEq] at e1 e2
    obtain ⟨rfl, rfl⟩ := e1
    obtain ⟨rfl, rfl⟩ := e2
    clear D1 D2
    go_wp2
    go_region
    all_goals (go_wp2; exact bodyPost_ret (v := .tuple #[.agg #[.int .i64 m, .int .i64 n], .agg #[.int .i64 r, .int .i64 s], .bool true]) (by simp [results, Try.results26, go_sem, q0, q1, r0, r1]) rfl ⟨rfl, by first | exact (below_setP (below_setP hbl.drew (by omega)) (by omega)) | exact (below_setP (below_setP hbl (by omega)) (by omega)).drew⟩)

theorem WParentsOf.walk (w : World) (a b : Int) : Calls Try.prog 7 #[.agg #[.int .i64 a, .int .i64 b]] w fun e w' => e = .returned (.bool true) ∧ Below w.heap.size w w' := by
  cases h : inB1 a b
  · exact WParentsOf.core w a b 0 0 0 0 false (Lib.hid fun w => spec_ParentsOf_no a b w h) (Lib.hid fun w => impl_ParentsOf_no a b w h)
  · obtain ⟨g1, g2, g3⟩ := inB1_iff.1 h
    obtain ⟨⟨x, y⟩, ⟨u, v⟩, hp⟩ := par_ex (f := (a, b)) g2 g3 (nbB_iff.1 g1).2.2
    exact WParentsOf.core w a b x y u v true (Lib.hid fun w => spec_ParentsOf_yes a b x y u v w h hp) (Lib.hid fun w => impl_ParentsOf_yes a b x y u v w h hp)

end Go.Proofs.Ytaifgfmkkgndkaa
