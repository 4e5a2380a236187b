/- Quiddities of triangulations: the model's poQuiddity, the program's countPieces and slices.Clone. -/
import Derived.Test.YtbpaaoeefcebeabQuidM
import Derived.Test.YtbpaaoeefcebeabLawM
import Derived.Test.YtbpaaoeefcebeabTriS
namespace Go.Proofs.Ytbpaaoeefcebeab
set_option linter.unusedVariables false
open Go.RowKit

set_option maxRecDepth 100000 in
set_option maxHeartbeats 3200000 in
theorem spec_poQuiddity_any (n : Int) (A : Option Addr) (c B : Nat) (l : List (Int × Int)) (w : World) (h : SlD w B A l) (hB : B ≤ w.heap.size) (hn3 : 3 ≤ n) (hn12 : n ≤ 12) (hl9' : (l.length : Int) ≤ n - 3) (hmem : ∀ d ∈ l, 0 ≤ d.1 ∧ d.1 + 2 ≤ d.2 ∧ d.2 < n) :
    Calls Try.prog 114 #[.int .i64 n, .slice A l.length c] w (GivI w (quidF n.toNat l)) := by
  obtain ⟨m, rfl⟩ := Int.eq_ofNat_of_zero_le (show 0 ≤ n by omega)
  rw [Int.toNat_natCast]
  have hl9 : l.length ≤ 9 := by omega
  clear hl9'
  obtain ⟨i0, hi, hz0, hz1, hz2⟩ := info_parts infoI
  have hbytes : i0.bytes * m ≤ 281474976710656 := by rw [hz2]; omega
  have hmax : m ≤ maxLen := by unfold maxLen; omega
  go_enter Try.func114, Try.ntmps114
  go_wp2_with (at_make; refine wpList_make_full _ rfl _ _ _ rfl w.heap.size 3 i0 (.int .i64 0) 1 Try.underlying50 hi hz0 hz1 _ _ _ _ m rfl rfl rfl rfl hbytes hmax (Nat.le_refl _) ?_; intro w1 hown1 hgrow1)
  have hb1 : Below w.heap.size w w1 := (Below.refl _ _).grown hgrow1 (Nat.le_refl _) (by simp)
  have e1 : (madeCells (Value.int .i64 0).cells (m * 1)).toList = ics (List.replicate m 0) := by
    rw [Nat.mul_one]
    show (madeCells #[Value.int .i64 0] m).toList = _
    rw [toList_madeCells_one]
    simp [ics]
  rw [e1] at hown1
  clear e1 hgrow1
  go_wp2
  go_loopw [6, 13] (fun _ i wr => ∃ k : Nat, k ≤ m ∧ i = .int .i64 k ∧ wr.ownsRow w.heap.size 3 1 (.slice (some ⟨w.heap.size, 0, none⟩) m m) m (ics (List.replicate k 1 ++ List.replicate (m - k) 0)) ∧ Below w.heap.size w wr) (fun _ i _ => m - (intOf i).toNat)
  case atStart => exact ⟨0, Nat.zero_le _, rfl, by simpa using hown1, hb1⟩
  case round =>
    obtain ⟨k, hk, rfl, ho, hb⟩ := hrel
    by_cases hlt : k < m
    · have hll : (List.replicate k (1 : Int) ++ List.replicate (m - k) 0).length = m := by simp; omega
      have hcell : wr.cell? ⟨w.heap.size, k, none⟩ = some (.int .i64 ((List.replicate k (1 : Int) ++ List.replicate (m - k) 0).getD k 0)) := by
        rw [ho.cellAt k (by omega), ics_get _ _ (by rw [hll]; exact hlt)]
      have hfro := ho.frozenAt k
      have hst := ho.stored k (.int .i64 1)
      have hnext : (List.replicate k (1 : Int) ++ List.replicate (m - k) 0).set k 1 = List.replicate (k + 1) 1 ++ List.replicate (m - (k + 1)) 0 := by
        rw [List.set_append_right _ _ (by simp), show m - k = (m - (k + 1)) + 1 by omega, List.replicate_succ]
        simp [List.replicate_succ']
      rw [ics_set, hnext] at hst
      obtain ⟨hs1, hs2⟩ := hst
      have hb2 := hb.grown hs2 hb.size (by simp)
      clear ho hs2 hown1 hb1 hnext hll hb
      generalize (List.replicate k (1 : Int) ++ List.replicate (m - k) 0).getD k 0 = z at *
      go_wp2
      go_roundw
      case rel => exact ⟨k + 1, by omega, by go_num, hs1, hb2⟩
      case measure => simp [intOf]; omega
    · obtain rfl : k = m := by omega
      rw [Nat.sub_self, List.replicate_zero, List.append_nil] at ho
      clear hown1 hb1
      go_wp2
      obtain ⟨wo, rfl⟩ : ∃ wo : World, wo = wr := ⟨_, rfl⟩
      go_loopw [8, 22] (fun _ i wr => ∃ j : Nat, j ≤ l.length ∧ i = .int .i64 j ∧ wr.ownsRow w.heap.size 3 1 (.slice (some ⟨w.heap.size, 0, none⟩) k k) k (ics (quidF k (l.take j))) ∧ Below w.heap.size w wr) (fun _ i _ => l.length - (intOf i).toNat)
      case atStart => exact ⟨0, Nat.zero_le _, rfl, by rw [List.take_zero, quidF_nil]; exact ho, hb⟩
      case round =>
        clear ho hb
        obtain ⟨j, hj, rfl, ho, hb⟩ := hrel
        by_cases hjl : j < l.length
        · obtain ⟨b3, off3, rfl, hbB3, hc3⟩ := h.below (hb.mono hB) (by omega)
          obtain ⟨s0, s1⟩ := hc3 j hjl
          have hq := quidF_take k l j hjl
          have hqb := quidF_bound k l j
          have hql := quidF_length k (l.take j)
          have hd := hmem (l.getD j (0, 0)) (by simp [hjl])
          generalize l.getD j (0, 0) = d at *
          obtain ⟨x, y⟩ := d
          dsimp only at s0 s1 hd
          obtain ⟨hx0, hxy, hyk⟩ := hd
          obtain ⟨x, rfl⟩ := Int.eq_ofNat_of_zero_le hx0
          obtain ⟨y, rfl⟩ := Int.eq_ofNat_of_zero_le (show 0 ≤ y by omega)
          have hx : x < k := by omega
          have hy : y < k := by omega
          rw [bump2] at hq
          dsimp only [Int.toNat_natCast] at hq
          generalize quidF k (l.take j) = q at *
          have hne : w.heap.size < wr.heap.size := (ho.lt _ rfl).2
          have own2 := ho
          have bel2 := hb
          have hbx := hqb x
          have hby := bump_bound q x _ (by omega) hqb y
          have cx := own2.cellAt x (by omega)
          rw [ics_get _ _ (by omega)] at cx
          have fx := own2.frozenAt x
          obtain ⟨own3, gr3⟩ := own2.stored x (.int .i64 (q.getD x 0 + 1))
          rw [ics_set, show q.set x (q.getD x 0 + 1) = bump q x from rfl] at own3
          have bel3 := bel2.grown gr3 bel2.size (by simp)
          have cy := own3.cellAt y (by omega)
          rw [ics_get _ _ (by rw [bump_length]; omega)] at cy
          have fy := own3.frozenAt y
          obtain ⟨own4, gr4⟩ := own3.stored y (.int .i64 ((bump q x).getD y 0 + 1))
          rw [ics_set, show (bump q x).set y ((bump q x).getD y 0 + 1) = bump (bump q x) y from rfl, ← hq] at own4
          have bel4 := (bel3.grown gr4 bel3.size (by simp)).alloc (by simpa using hb.size) (.cells #[.int .i64 x, .int .i64 y] 65)
          replace own4 := own4.alloc (.cells #[.int .i64 x, .int .i64 y] 65)
          generalize q.getD x 0 = qx at *
          generalize (bump q x).getD y 0 = qy at *
          obtain ⟨_, _⟩ := hbx
          obtain ⟨_, _⟩ := hby
          have x0 : (0 : Int) ≤ (x : Int) := by omega
          have x1 : (x : Int) < (k : Int) := by omega
          have y0 : (0 : Int) ≤ (y : Int) := by omega
          have y1 : (y : Int) < (k : Int) := by omega
          clear hq hc3 hqb hql own2 own3 gr3 gr4 bel2 bel3 ho hb hmem hxy hyk hx0
          go_wp2
          go_roundw
          case rel => exact ⟨j + 1, by omega, by go_num, own4, bel4⟩
          case measure => simp [intOf]; omega
        · obtain rfl : j = l.length := by omega
          rw [List.take_length] at ho
          have ho' : wr.ownsRow w.heap.size 3 1 (.slice (some ⟨w.heap.size, 0, none⟩) k k) (quidF k l).length (ics (quidF k l)) := by rw [quidF_length]; exact ho
          have hres : GivI w (quidF k l) (.returned (.slice (some ⟨w.heap.size, 0, none⟩) k k)) wr := by
            have e := quidF_length k l
            refine ⟨some ⟨w.heap.size, 0, none⟩, k, by rw [e], by rw [e]; exact ho, hb⟩
          have Hres := Lib.hid hres
          clear ho ho' hres
          go_wp2
          go_ret
          exact Hres.out

theorem spec_poQuiddity (n : Int) (A : Option Addr) (c B : Nat) (l : List (Int × Int)) (w : World) (h : SlD w B A l) (hB : B ≤ w.heap.size) (ht : triB n l = true) :
    Calls Try.prog 114 #[.int .i64 n, .slice A l.length c] w (GivI w (quidF n.toNat l)) := by
  obtain ⟨hn3, hn12, hlen⟩ := tri_n ht
  exact spec_poQuiddity_any n A c B l w h hB hn3 hn12 (by omega) (tri_mem ht)

end Go.Proofs.Ytbpaaoeefcebeab
