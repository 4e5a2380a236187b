/- The program's firstFlipTo and FlipsToFan. -/
import Derived.Test.YtbpaaoeefcebeaaFtfM
import Derived.Test.YtbpaaoeefcebeaaFliT
import Derived.Test.YtbpaaoeefcebeaaFliO
import Derived.Test.YtbpaaoeefcebeaaAllT
namespace Go.Proofs.Ytbpaaoeefcebeaa
set_option linter.unusedVariables false
open Go.RowKit

def FfEnd (w : World) (o : Option (Int × Int)) (e : Ending) (w' : World) : Prop := e = .returned (.tuple #[.agg #[.int .i64 (o.getD (0, 0)).1, .int .i64 (o.getD (0, 0)).2], .bool o.isSome]) ∧ Below w.heap.size w w'

set_option maxRecDepth 100000 in
set_option maxHeartbeats 3200000 in
theorem impl_firstFlipTo (n : Nat) (A : Option Addr) (m c B : Nat) (l : List (Int × Int)) (a : Int) (w : World) (h : SlD w B A l) (hl : l.length = m) (hB : B ≤ w.heap.size) (ht : Tri n l) :
    Calls Try.prog 79 #[.int .i64 n, .slice A m c, .int .i64 a] w (FfEnd w (ffind n a l)) := by
  have hm9 : m ≤ 9 := by have := ht.len; have := ht.n12; omega
  have H := Lib.hid h
  have Hl := Lib.hid hl
  have HT := Lib.hid ht
  clear h hl ht
  go_enter Try.func79, Try.ntmps79
  go_upto_region 1 with fail
  obtain ⟨wa, hwa⟩ : ∃ wa, wa = w.alloc (.cells #[.int .i64 0, .int .i64 0] 40) := ⟨_, rfl⟩
  have hR : Bx2 wa w.heap.size 0 0 := by rw [hwa]; exact Bx2.new _ _ _ _
  have hba : Below w.heap.size w wa := by rw [hwa]; exact (Below.refl _ _).alloc (Nat.le_refl _) _
  rw [← hwa]
  clear hwa
  have Hba := Lib.hid hba
  have HR0 := Lib.hid hR
  clear hba hR
  go_wp2
  go_loopw [13] (fun i wr => ∃ k : Nat, k ≤ m ∧ i = .int .i64 k ∧ (∀ j, j < k → hasAt (oth n l (l.getD j (0, 0))) a = false) ∧ Below wa.heap.size wa wr) (fun i _ => m - (intOf i).toNat)
  case atStart => exact ⟨0, Nat.zero_le _, rfl, fun j hj => by omega, Below.refl _ _⟩
  case round =>
    obtain ⟨k, hk, rfl, hno, hb⟩ := hrel
    have hR2 := HR0.out.kept hb
    have hd := below_kept Hba.out (Nat.le_refl _) hb
    have Hno := Lib.hid hno
    clear hno
    by_cases hlt : k < m
    · obtain ⟨b, off, rfl, hbB, hc⟩ := H.out.below (hd.mono hB) (by have := Hl.out; omega)
      obtain ⟨g0, g1⟩ := hc k (by rw [Hl.out]; exact hlt)
      have i0 : (0 : Int) ≤ (k : Int) := by omega
      have i1 : (k : Int) < (m : Int) := by omega
      have hmm := getD_mem (l := l) (k := k) (by rw [Hl.out]; exact hlt)
      have hfirst := ffind_first (n := n) (c := a) (l := l) (k := k) (by rw [Hl.out]; exact hlt) Hno.out
      generalize hdd : l.getD k (0, 0) = d at *
      obtain ⟨u, v⟩ := d
      dsimp only at g0 g1
      have Hdd := Lib.hid hdd
      have Hm := Lib.hid hmm
      have Hfirst := Lib.hid hfirst
      have HR2 := Lib.hid (hR2.alloc (.cells #[.int .i64 u, .int .i64 v] 40))
      have Hb := Lib.hid (hb.alloc hb.size (.cells #[.int .i64 u, .int .i64 v] 40))
      have Hd := Lib.hid (hd.alloc hd.size (.cells #[.int .i64 u, .int .i64 v] 40))
      clear hc hmm hdd hR2 hb hd hfirst
      go_wp2_with fail
      with_reducible refine (impl_otherDiagonal n _ m c B l u v _ (H.out.below (Hd.out.mono hB)) Hl.out (Nat.le_trans hB Hd.out.size) HT.out Hm.out).mono ?_
      rintro e w5 ⟨rfl, hb5⟩
      have q0 : w5.cell? ⟨wr.heap.size, 0, none⟩ = some (.int .i64 u) := cell_kept hb5 (by simp [go_sem])
      have q1 : w5.cell? ⟨wr.heap.size, 1, none⟩ = some (.int .i64 v) := cell_kept hb5 (by simp [go_sem])
      have hwr : wr.heap.size < w5.heap.size := World.block_lt_of_cell? w5 _ q0
      have hho : hasAt (oth n l (u, v)) a = (decide ((oth n l (u, v)).1 = a) || decide ((oth n l (u, v)).2 = a)) := rfl
      have Hho := Lib.hid hho
      generalize (oth n l (u, v)).1 = o1 at *
      generalize (oth n l (u, v)).2 = o2 at *
      have hR5 := HR2.out.kept hb5
      have hg4 : w.heap.size < w5.heap.size := hR5.lt
      have hb3 := below_kept Hb.out (Nat.le_refl _) hb5
      have hd3 := below_kept Hd.out (Nat.le_refl _) hb5
      have Hb3 := Lib.hid (hb3.alloc hb3.size (.cells #[.int .i64 o1, .int .i64 o2] 40))
      have Hd3 := Lib.hid (hd3.alloc hd3.size (.cells #[.int .i64 o1, .int .i64 o2] 40))
      clear hb5 HR2 Hb Hd hb3 g0 g1 hho
      by_cases hh : o1 = a ∨ o2 = a
      · have hE : ffind n a l = some (u, v) := Hfirst.out (by rw [Hho.out]; simpa using hh)
        have hres : ∀ w', Below w.heap.size w w' → FfEnd w (ffind n a l) (.returned (.tuple #[.agg #[.int .i64 u, .int .i64 v], .bool true])) w' := fun w' hb => by
          rw [hE]
          exact ⟨rfl, hb⟩
        have Hres := Lib.hid hres
        have hW := ((hR5.set0 u).set1 v).alloc (.cells #[.int .i64 o1, .int .i64 o2] 40)
        have hWb : Below w.heap.size w (((w5.setCell ⟨w.heap.size, 0, none⟩ (.int .i64 u)).setCell ⟨w.heap.size, 1, none⟩ (.int .i64 v)).alloc (.cells #[.int .i64 o1, .int .i64 o2] 40)) := by
          have h1 := ((hd3.setCell (p := ⟨w.heap.size, 0, none⟩) (Nat.le_refl _) (.int .i64 u)).setCell (p := ⟨w.heap.size, 1, none⟩) (Nat.le_refl _) (.int .i64 v))
          exact h1.alloc h1.size _
        have HW0 := Lib.hid hW.1.1
        have HW1 := Lib.hid hW.1.2
        have HWb := Lib.hid hWb
        clear hW hWb
        obtain ⟨⟨v0, v1⟩, g2, g3⟩ := hR5
        have hg5 : w.heap.size ≠ w5.heap.size := by omega
        clear hres hE Hho Hfirst hd3
        rcases Classical.em (o1 = a) with e1 | e1
        · subst e1
          go_wp2
          refine bodyPost_ret (v := .tuple #[.agg #[.int .i64 u, .int .i64 v], .bool true]) (by simp [results, Try.results79, go_sem, HW0.out, HW1.out]) rfl (Hres.out _ HWb.out)
        · have e2 : o2 = a := hh.resolve_left e1
          have e1' : (o1 == a) = false := by simpa using e1
          subst e2
          go_wp2
          refine bodyPost_ret (v := .tuple #[.agg #[.int .i64 u, .int .i64 v], .bool true]) (by simp [results, Try.results79, go_sem, HW0.out, HW1.out]) rfl (Hres.out _ HWb.out)
      · have e1 : (o1 == a) = false := by simpa using fun e => hh (Or.inl e)
        have e2 : (o2 == a) = false := by simpa using fun e => hh (Or.inr e)
        have hnext : ∀ j, j < k + 1 → hasAt (oth n l (l.getD j (0, 0))) a = false := fun j hj => by
          by_cases e : j = k
          · subst e; rw [Hdd.out, Hho.out]; simpa using hh
          · exact Hno.out j (by omega)
        have Hnext := Lib.hid hnext
        clear hnext hh hR5 hd3
        go_wp2
        go_roundw
        case rel => exact ⟨k + 1, by omega, by go_num, Hnext.out, Hb3.out⟩
        case measure => simp [intOf]; omega
    · obtain rfl : k = m := by omega
      have hE := ffind_no Hl.out Hno.out
      have hres : ∀ w', Below w.heap.size w w' → FfEnd w (ffind n a l) (.returned (.tuple #[.agg #[.int .i64 0, .int .i64 0], .bool false])) w' := fun w' hb => by
        rw [hE]
        exact ⟨rfl, hb⟩
      have Hres := Lib.hid hres
      have Hd := Lib.hid hd
      have hlt4 := hR2.lt
      obtain ⟨⟨v0, v1⟩, g2, g3⟩ := hR2
      clear hres hE hd hb
      go_wp2
      refine bodyPost_ret (v := .tuple #[.agg #[.int .i64 0, .int .i64 0], .bool false]) (by simp [results, Try.results79, go_sem, v0, v1]) rfl (Hres.out _ ?_)
      exact (Hd.out.setCell (p := ⟨w.heap.size, 0, none⟩) (Nat.le_refl _) _).setCell (p := ⟨w.heap.size, 1, none⟩) (Nat.le_refl _) _
end Go.Proofs.Ytbpaaoeefcebeaa
