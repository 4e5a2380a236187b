/- The program's countPieces: an array of twelve numbers. -/
import Derived.Test.YtbpaaoeefcebeabQuid
namespace Go.Proofs.Ytbpaaoeefcebeab
set_option linter.unusedVariables false
open Go.RowKit

theorem list12 {l : List Int} (h : l.length = 12) : ∃ a0 a1 a2 a3 a4 a5 a6 a7 a8 a9 a10 a11, l = [a0, a1, a2, a3, a4, a5, a6, a7, a8, a9, a10, a11] := by
  match l, h with
  | [a0, a1, a2, a3, a4, a5, a6, a7, a8, a9, a10, a11], _ => exact ⟨a0, a1, a2, a3, a4, a5, a6, a7, a8, a9, a10, a11, rfl⟩

theorem cell_here {w : World} {a : Addr} {v : Value} (h : (w.cell? a).isSome = true) : (w.setCell a v).cell? a = some v := by
  obtain ⟨u, hu⟩ := Option.isSome_iff_exists.1 h
  exact World.cell?_setCell_same _ _ _ hu
theorem below_set {B : Nat} {w0 w : World} {g o : Nat} {v : Value} (h : Below B w0 w) (hg : B ≤ g) : Below B w0 (w.setCell ⟨g, o, none⟩ v) := h.setCell hg v

/-- an array of twelve numbers as a value -/
def arr12 (q : List Int) : Value := .agg (ics q).toArray

set_option maxRecDepth 100000 in
set_option maxHeartbeats 3200000 in
theorem impl_countPieces (A : Option Addr) (c B : Nat) (l : List (Int × Int)) (w : World) (h : SlD w B A l) (hB : B ≤ w.heap.size) (hl9 : l.length ≤ 9)
    (hmem : ∀ d ∈ l, 0 ≤ d.1 ∧ d.1 + 2 ≤ d.2 ∧ d.2 < 12) :
    Calls Try.prog 116 #[.slice A l.length c] w fun e w' => e = .returned (arr12 (quidF 12 l)) ∧ Below w.heap.size w w' := by
  go_enter Try.func116, Try.ntmps116
  go_wp2
  have hr0 : ((w.alloc (.cells (ics (List.replicate 12 0)).toArray 101)).alloc (.cells (ics (List.replicate 12 0)).toArray 101)).ownsRow w.heap.size 101 1 (.slice (some ⟨w.heap.size, 0, none⟩) 12 12) 12 (ics (List.replicate 12 0)) :=
    (World.ownsRow_lit w (ics (List.replicate 12 0)).toArray 12 (Nat.le_refl _) (by decide) rfl).alloc _
  have hg0 : ((w.alloc (.cells (ics (List.replicate 12 0)).toArray 101)).alloc (.cells (ics (List.replicate 12 0)).toArray 101)).ownsRow w.heap.size 101 1 (.slice (some ⟨w.heap.size + 1, 0, none⟩) 12 12) 12 (ics (List.replicate 12 0)) := by
    have := World.ownsRow_lit (e := 101) (size := 1) (base := w.heap.size) (w.alloc (.cells (ics (List.replicate 12 0)).toArray 101)) (ics (List.replicate 12 0)).toArray 12 (by simp) (by decide) rfl
    simpa using this
  have hb0 : Below w.heap.size w ((w.alloc (.cells (ics (List.replicate 12 0)).toArray 101)).alloc (.cells (ics (List.replicate 12 0)).toArray 101)) := ((Below.refl _ _).alloc (Nat.le_refl _) _).alloc (by simp) _
  go_loopw [4, 7] (fun _ i wr => ∃ k : Nat, k ≤ 12 ∧ i = .int .i64 k ∧ wr.ownsRow w.heap.size 101 1 (.slice (some ⟨w.heap.size, 0, none⟩) 12 12) 12 (ics (List.replicate 12 0)) ∧ wr.ownsRow w.heap.size 101 1 (.slice (some ⟨w.heap.size + 1, 0, none⟩) 12 12) 12 (ics (List.replicate k 1 ++ List.replicate (12 - k) 0)) ∧ Below w.heap.size w wr) (fun _ i _ => 12 - (intOf i).toNat)
  case atStart => exact ⟨0, by omega, rfl, hr0, hg0, hb0⟩
  case round =>
    clear hr0 hg0 hb0
    obtain ⟨k, hk, rfl, hr, ho, hb⟩ := hrel
    by_cases hlt : k < 12
    · have hll : (List.replicate k (1 : Int) ++ List.replicate (12 - k) 0).length = 12 := by simp; omega
      have hcell : wr.cell? ⟨w.heap.size + 1, k, none⟩ = some (.int .i64 ((List.replicate k (1 : Int) ++ List.replicate (12 - k) 0).getD k 0)) := by
        rw [ho.cellAt k (by omega), ics_get _ _ (by rw [hll]; exact hlt)]
      have hfro := ho.frozenAt k
      have hst := ho.stored k (.int .i64 1)
      have hnext : (List.replicate k (1 : Int) ++ List.replicate (12 - k) 0).set k 1 = List.replicate (k + 1) 1 ++ List.replicate (12 - (k + 1)) 0 := by
        rw [List.set_append_right _ _ (by simp), show 12 - k = (12 - (k + 1)) + 1 by omega, List.replicate_succ]
        simp [List.replicate_succ']
      rw [ics_set, hnext] at hst
      obtain ⟨hs1, hs2⟩ := hst
      have hb2 := hb.grown hs2 hb.size (by simp)
      have hr2 := own_far hr hs2 (by simp [Value.ownBlock])
      clear ho hs2 hnext hll hb hr
      generalize (List.replicate k (1 : Int) ++ List.replicate (12 - k) 0).getD k 0 = z at *
      go_wp2
      go_roundw
      case rel => exact ⟨k + 1, by omega, by go_num, hr2, hs1, hb2⟩
      case measure => simp [intOf]; omega
    · obtain rfl : k = 12 := by omega
      rw [Nat.sub_self, List.replicate_zero, List.append_nil] at ho
      go_wp2
      obtain ⟨wo, rfl⟩ : ∃ wo : World, wo = wr := ⟨_, rfl⟩
      go_loopw [6, 15] (fun _ i wr => ∃ j : Nat, j ≤ l.length ∧ i = .int .i64 j ∧ wr.ownsRow w.heap.size 101 1 (.slice (some ⟨w.heap.size, 0, none⟩) 12 12) 12 (ics (List.replicate 12 0)) ∧ wr.ownsRow w.heap.size 101 1 (.slice (some ⟨w.heap.size + 1, 0, none⟩) 12 12) 12 (ics (quidF 12 (l.take j))) ∧ Below w.heap.size w wr) (fun _ i _ => l.length - (intOf i).toNat)
      case atStart => exact ⟨0, Nat.zero_le _, rfl, hr, by rw [List.take_zero, quidF_nil]; exact ho, hb⟩
      case round =>
        clear ho hb hr
        obtain ⟨j, hj, rfl, hr, ho, hb⟩ := hrel
        by_cases hjl : j < l.length
        · obtain ⟨b3, off3, rfl, hbB3, hc3⟩ := h.below (hb.mono hB) (by omega)
          obtain ⟨s0, s1⟩ := hc3 j hjl
          have hq := quidF_take 12 l j hjl
          have hqb := quidF_bound 12 l j
          have hql := quidF_length 12 (l.take j)
          have hd := hmem (l.getD j (0, 0)) (by simp [hjl])
          generalize l.getD j (0, 0) = d at *
          obtain ⟨x, y⟩ := d
          dsimp only at s0 s1 hd
          obtain ⟨hx0, hxy, hyk⟩ := hd
          obtain ⟨x, rfl⟩ := Int.eq_ofNat_of_zero_le hx0
          obtain ⟨y, rfl⟩ := Int.eq_ofNat_of_zero_le (show 0 ≤ y by omega)
          have hx : x < 12 := by omega
          have hy : y < 12 := by omega
          rw [bump2] at hq
          dsimp only [Int.toNat_natCast] at hq
          generalize quidF 12 (l.take j) = q at *
          have hne : w.heap.size + 1 < wr.heap.size := (ho.lt _ rfl).2
          have bel2 := hb
          have hbx := hqb x
          have hby := bump_bound q x _ (by omega) hqb y
          have cx := ho.cellAt x (by omega)
          rw [ics_get _ _ (by omega)] at cx
          have fx := ho.frozenAt x
          obtain ⟨own3, gr3⟩ := ho.stored x (.int .i64 (q.getD x 0 + 1))
          rw [ics_set, show q.set x (q.getD x 0 + 1) = bump q x from rfl] at own3
          have bel3 := bel2.grown gr3 bel2.size (by simp)
          have hr3 := own_far hr gr3 (by simp [Value.ownBlock])
          have cy := own3.cellAt y (by omega)
          rw [ics_get _ _ (by rw [bump_length]; omega)] at cy
          have fy := own3.frozenAt y
          obtain ⟨own4, gr4⟩ := own3.stored y (.int .i64 ((bump q x).getD y 0 + 1))
          rw [ics_set, show (bump q x).set y ((bump q x).getD y 0 + 1) = bump (bump q x) y from rfl, ← hq] at own4
          have bel4 := (bel3.grown gr4 bel3.size (by simp)).alloc (by simpa using hb.size) (.cells #[.int .i64 x, .int .i64 y] 65)
          replace own4 := own4.alloc (.cells #[.int .i64 x, .int .i64 y] 65)
          have hr4 := (own_far hr3 gr4 (by simp [Value.ownBlock])).alloc (.cells #[.int .i64 x, .int .i64 y] 65)
          generalize q.getD x 0 = qx at *
          generalize (bump q x).getD y 0 = qy at *
          obtain ⟨_, _⟩ := hbx
          obtain ⟨_, _⟩ := hby
          have x0 : (0 : Int) ≤ (x : Int) := by omega
          have x1 : (x : Int) < (12 : Int) := by omega
          have y0 : (0 : Int) ≤ (y : Int) := by omega
          have y1 : (y : Int) < (12 : Int) := by omega
          clear hq hc3 hqb hql own3 gr3 gr4 bel2 bel3 ho hb hmem hxy hyk hx0 hr hr3
          go_wp2
          go_roundw
          case rel => exact ⟨j + 1, by omega, by go_num, hr4, own4, bel4⟩
          case measure => simp [intOf]; omega
        · obtain rfl : j = l.length := by omega
          rw [List.take_length] at ho
          obtain ⟨q0, q1, q2, q3, q4, q5, q6, q7, q8, q9, q10, q11, hq⟩ := list12 (quidF_length 12 l)
          have c0 : wr.cell? ⟨w.heap.size + 1, 0, none⟩ = some (.int .i64 q0) := by rw [ho.cellAt 0 (by omega), hq]; rfl
          have c1 : wr.cell? ⟨w.heap.size + 1, 1, none⟩ = some (.int .i64 q1) := by rw [ho.cellAt 1 (by omega), hq]; rfl
          have c2 : wr.cell? ⟨w.heap.size + 1, 2, none⟩ = some (.int .i64 q2) := by rw [ho.cellAt 2 (by omega), hq]; rfl
          have c3 : wr.cell? ⟨w.heap.size + 1, 3, none⟩ = some (.int .i64 q3) := by rw [ho.cellAt 3 (by omega), hq]; rfl
          have c4 : wr.cell? ⟨w.heap.size + 1, 4, none⟩ = some (.int .i64 q4) := by rw [ho.cellAt 4 (by omega), hq]; rfl
          have c5 : wr.cell? ⟨w.heap.size + 1, 5, none⟩ = some (.int .i64 q5) := by rw [ho.cellAt 5 (by omega), hq]; rfl
          have c6 : wr.cell? ⟨w.heap.size + 1, 6, none⟩ = some (.int .i64 q6) := by rw [ho.cellAt 6 (by omega), hq]; rfl
          have c7 : wr.cell? ⟨w.heap.size + 1, 7, none⟩ = some (.int .i64 q7) := by rw [ho.cellAt 7 (by omega), hq]; rfl
          have c8 : wr.cell? ⟨w.heap.size + 1, 8, none⟩ = some (.int .i64 q8) := by rw [ho.cellAt 8 (by omega), hq]; rfl
          have c9 : wr.cell? ⟨w.heap.size + 1, 9, none⟩ = some (.int .i64 q9) := by rw [ho.cellAt 9 (by omega), hq]; rfl
          have c10 : wr.cell? ⟨w.heap.size + 1, 10, none⟩ = some (.int .i64 q10) := by rw [ho.cellAt 10 (by omega), hq]; rfl
          have c11 : wr.cell? ⟨w.heap.size + 1, 11, none⟩ = some (.int .i64 q11) := by rw [ho.cellAt 11 (by omega), hq]; rfl
          have d0 : wr.cell? ⟨w.heap.size, 0, none⟩ = some (.int .i64 0) := by rw [hr.cellAt 0 (by omega)]; rfl
          have f0 := hr.frozenAt 0
          have d1 : wr.cell? ⟨w.heap.size, 1, none⟩ = some (.int .i64 0) := by rw [hr.cellAt 1 (by omega)]; rfl
          have f1 := hr.frozenAt 1
          have d2 : wr.cell? ⟨w.heap.size, 2, none⟩ = some (.int .i64 0) := by rw [hr.cellAt 2 (by omega)]; rfl
          have f2 := hr.frozenAt 2
          have d3 : wr.cell? ⟨w.heap.size, 3, none⟩ = some (.int .i64 0) := by rw [hr.cellAt 3 (by omega)]; rfl
          have f3 := hr.frozenAt 3
          have d4 : wr.cell? ⟨w.heap.size, 4, none⟩ = some (.int .i64 0) := by rw [hr.cellAt 4 (by omega)]; rfl
          have f4 := hr.frozenAt 4
          have d5 : wr.cell? ⟨w.heap.size, 5, none⟩ = some (.int .i64 0) := by rw [hr.cellAt 5 (by omega)]; rfl
          have f5 := hr.frozenAt 5
          have d6 : wr.cell? ⟨w.heap.size, 6, none⟩ = some (.int .i64 0) := by rw [hr.cellAt 6 (by omega)]; rfl
          have f6 := hr.frozenAt 6
          have d7 : wr.cell? ⟨w.heap.size, 7, none⟩ = some (.int .i64 0) := by rw [hr.cellAt 7 (by omega)]; rfl
          have f7 := hr.frozenAt 7
          have d8 : wr.cell? ⟨w.heap.size, 8, none⟩ = some (.int .i64 0) := by rw [hr.cellAt 8 (by omega)]; rfl
          have f8 := hr.frozenAt 8
          have d9 : wr.cell? ⟨w.heap.size, 9, none⟩ = some (.int .i64 0) := by rw [hr.cellAt 9 (by omega)]; rfl
          have f9 := hr.frozenAt 9
          have d10 : wr.cell? ⟨w.heap.size, 10, none⟩ = some (.int .i64 0) := by rw [hr.cellAt 10 (by omega)]; rfl
          have f10 := hr.frozenAt 10
          have d11 : wr.cell? ⟨w.heap.size, 11, none⟩ = some (.int .i64 0) := by rw [hr.cellAt 11 (by omega)]; rfl
          have f11 := hr.frozenAt 11
          have Hq := Lib.hid hq
          clear hq ho hr h hmem
          go_wp2
          have hfin : Ending.returned (.agg #[.int .i64 q0, .int .i64 q1, .int .i64 q2, .int .i64 q3, .int .i64 q4, .int .i64 q5, .int .i64 q6, .int .i64 q7, .int .i64 q8, .int .i64 q9, .int .i64 q10, .int .i64 q11]) = Ending.returned (arr12 (quidF 12 l)) := by rw [arr12, Hq.out]; rfl
          refine bodyPost_ret (v := .agg #[.int .i64 q0, .int .i64 q1, .int .i64 q2, .int .i64 q3, .int .i64 q4, .int .i64 q5, .int .i64 q6, .int .i64 q7, .int .i64 q8, .int .i64 q9, .int .i64 q10, .int .i64 q11]) ?hr rfl ?hR
          case hR =>
            refine And.intro hfin ?_
            have hb' := hb
            clear hb
            iterate 12 refine below_set ?_ (Nat.le_refl _)
            exact hb'
          case hr => simp [results, Try.results116, go_sem, cell_here, d0, d1, d2, d3, d4, d5, d6, d7, d8, d9, d10, d11]

end Go.Proofs.Ytbpaaoeefcebeab
