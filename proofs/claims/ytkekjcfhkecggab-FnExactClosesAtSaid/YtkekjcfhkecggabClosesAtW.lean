/- ClosesAt: the program's contract and the law's walk. -/
import Derived.Test.YtkekjcfhkecggabFndC
import Derived.Test.YtkekjcfhkecggabCloI
import Derived.Test.YtkekjcfhkecggabClosesAtC
namespace Go.Proofs.Ytkekjcfhkecggab
set_option linter.unusedVariables false
open Go.RowKit

def wtC (r : List Int) (j : Nat) : Bool := allB (itL r j).2 1 1
theorem fnd_clo (r : List Int) : ∀ (f j : Nat), (fnd r (wtC r) f j).1 = (clo r f j).1 ∧ (fnd r (wtC r) f j).2.2 = (clo r f j).2 := by
  intro f
  induction f with
  | zero => intro j; exact ⟨rfl, rfl⟩
  | succ f ih =>
    intro j
    have e1 : fnd r (wtC r) (f + 1) j = if wtC r j = true then ((j : Int) + 1, pad (itL r j).2, true) else if nextOk (itL r j).1 (itL r j).2 = true then fnd r (wtC r) f (j + 1) else (0, List.replicate 12 0, false) := rfl
    have e2 : clo r (f + 1) j = if wtC r j = true then ((j : Int) + 1, true) else if nextOk (itL r j).1 (itL r j).2 = true then clo r f (j + 1) else (0, false) := rfl
    rw [e1, e2]
    cases wtC r j
    · cases nextOk (itL r j).1 (itL r j).2
      · exact ⟨rfl, rfl⟩
      · exact ih (j + 1)
    · exact ⟨rfl, rfl⟩
theorem fnd_length (r : List Int) (wt : Nat → Bool) (hL : ∀ j, itOk r j = true → (itL r j).2.length ≤ 12) : ∀ (f j : Nat), itOk r j = true → (fnd r wt f j).2.1.length = 12 := by
  intro f
  induction f with
  | zero => intro j _; rfl
  | succ f ih =>
    intro j hj
    have e1 : fnd r wt (f + 1) j = if wt j = true then ((j : Int) + 1, pad (itL r j).2, true) else if nextOk (itL r j).1 (itL r j).2 = true then fnd r wt f (j + 1) else (0, List.replicate 12 0, false) := rfl
    rw [e1]
    cases wt j
    · cases hn : nextOk (itL r j).1 (itL r j).2
      · rfl
      · exact ih (j + 1) (by rw [itOk_succ, hj, hn]; rfl)
    · exact pad_length _ (hL j hj)

set_option maxRecDepth 100000 in
set_option maxHeartbeats 3200000 in
theorem impl_ClosesAt (A : Option Addr) (c B : Nat) (r : List Int) (w : World) (h : SlI w B A r) (hB : B ≤ w.heap.size) (hl : r.length ≤ 1048576) (hlc : r.length ≤ c) :
    Calls Try.prog 29 #[.slice A r.length c] w (CloEnd r w) := by
  have hmf : ∀ (fn : Fn) (first cap : Array Value) (w : World), (Instr.makeFunc fn first cap).run Try.prog w = .ok (.func fn first cap) w := fun _ _ _ _ => rfl
  obtain ⟨n, hn⟩ : ∃ n, r.length = n := ⟨_, rfl⟩
  have C1 : Hid (∀ w, SlI w B A r → B ≤ w.heap.size → Calls Try.prog 53 #[.slice A n c, .int .i64 100] w fun e w' => e = .returned (.bool (beginB r)) ∧ Below w.heap.size w w') := Lib.hid fun w h hB => by
    have := impl_isRow A c B r 100 w h hB hl
    rwa [hn] at this
  have H := Lib.hid h
  have Hn := Lib.hid hn
  rw [hn] at hl hlc ⊢
  clear h hn
  go_enter Try.func29, Try.ntmps29
  go_wp2_with fail
  refine (C1.out _ H.out hB).mono ?_
  rintro e w1 ⟨rfl, b1⟩
  have Hb1 := Lib.hid b1
  clear b1 C1
  cases hb : beginB r
  · have HE := Lib.hid (cloEnd_of (r := r) (x := 0) (b := false) (by unfold cloR; rw [hb]; rfl) Hb1.out)
    clear hb
    go_wp2
    go_ret2
    exact HE.out
  · obtain ⟨⟨n3, n12⟩, hall⟩ := beginB_iff.1 hb
    have hr := Lib.hid (rowB_of hall (by omega))
    have End : Hid (∀ w', Below w.heap.size w w' → CloEnd r w (.returned (.tuple #[.int .i64 (fnd r (wtC r) 9 0).1, .bool (fnd r (wtC r) 9 0).2.2])) w') := Lib.hid fun w' hbl => by
      refine cloEnd_of ?_ hbl
      unfold cloR
      rw [if_pos hb, (fnd_clo r 9 0).1, (fnd_clo r 9 0).2]
    have Hfl : Hid ((fnd r (wtC r) 9 0).2.1.length = 12) := Lib.hid (fnd_length r _ (fun j hj => by rw [(it_good hr.out j hj).1.2]; exact n12) 9 0 rfl)
    have CF : Hid (∀ (g : Nat) (w : World), SlI w B A r → B ≤ w.heap.size → Blk w g 47 (pad (List.replicate n 1)) → Calls Try.prog 54 #[.slice A n c, .func (.func 58) #[] #[.pointer (some ⟨g, 0, none⟩)]] w (FndEnd r (wtC r) w)) := Lib.hid fun g w h hB hg => by
      have := impl_findBelowC g (wtC r) A c B r w h hB n3 n12 hr.out (Lib.hid fun j w' hb' hit _ => by
        have hlj := (it_good hr.out j hit).1.2
        have e : wtC r j = decide (pad (itL r j).2 = pad (List.replicate n 1)) := (pad_ones (by rw [hlj, Hn.out]) (by rw [← Hn.out]; exact n12)).symm
        rw [e]
        exact impl_clo1 g _ _ _ (pad_length _ (by omega)) (pad_length _ (by rw [List.length_replicate, ← Hn.out]; exact n12)) w' (hg.below hb'))
      rwa [Hn.out] at this
    rw [Hn.out] at n3 n12
    have hn1 : 1 ≤ n := by omega
    have Hpl : Hid ((pad (List.replicate n (1 : Int))).length = 12) := Lib.hid (pad_length _ (by simpa using n12))
    clear hb hall
    go_wp2_with fail
    refine (impl_onesBand n _ hn1 n12).mono ?_
    rintro e w2 ⟨rfl, b2⟩
    have hd2 := below_kept Hb1.out (Nat.le_refl _) b2
    have hwn : w.heap.size ≤ w2.heap.size := hd2.size
    have HZ : Hid (Blk (w2.alloc (.cells (ics (List.replicate 12 0)).toArray 47)) w2.heap.size 47 (List.replicate 12 0)) := Lib.hid (Blk.new _ _ _)
    have HB : Hid (Below w.heap.size w (w2.alloc (.cells (ics (List.replicate 12 0)).toArray 47))) := Lib.hid (hd2.alloc hwn _)
    clear b2 hd2 Hb1
    go_wp2_with (first
      | (refine wpList_store_band rfl (.tmp 4) (.tmp 13) rfl rfl w2.heap.size (pad (List.replicate n 1)) rfl rfl 47 (List.replicate 12 0) HZ.out rfl Hpl.out ?_
         intro w3 h3 g3
         have Hb3 := Lib.hid (below_grown HB.out g3 (Nat.le_refl _) (fun k hk => by injection hk with hk; omega))
         have H3 := Lib.hid (show Blk w3 w2.heap.size 47 (pad (List.replicate n 1)) from h3)
         clear g3 HZ HB h3))
    refine (CF.out w2.heap.size w3 (H.out.below (Hb3.out.mono hB)) (Nat.le_trans hB Hb3.out.size) H3.out).mono ?_
    rintro e w4 ⟨rfl, b4⟩
    have hd4 := below_kept Hb3.out (Nat.le_refl _) b4
    have hwn4 : w.heap.size ≤ w4.heap.size := hd4.size
    have HZ : Hid (Blk (w4.alloc (.cells (ics (List.replicate 12 0)).toArray 47)) w4.heap.size 47 (List.replicate 12 0)) := Lib.hid (Blk.new _ _ _)
    have HB : Hid (Below w.heap.size w (w4.alloc (.cells (ics (List.replicate 12 0)).toArray 47))) := Lib.hid (hd4.alloc hwn4 _)
    clear b4 hd4 Hb3 H3 CF hr
    generalize fnd r (wtC r) 9 0 = R at *
    obtain ⟨x, L, ok⟩ := R
    go_wp2_with (first
      | (refine wpList_store_band rfl (.tmp 6) (.tmp 19) rfl rfl w4.heap.size L rfl rfl 47 (List.replicate 12 0) HZ.out rfl Hfl.out ?_
         intro w6 h6 g6
         have HE := Lib.hid (End.out w6 (below_grown HB.out g6 (Nat.le_refl _) (fun k hk => by injection hk with hk; omega)))
         clear g6 HZ HB h6))
    go_ret2
    exact HE.out

theorem WClosesAt.walk (w : World) (A0 : Option Addr) (c0 : Nat) (l0 : List Int) (h0 : SlI w w.heap.size A0 l0) (hj0 : l0.length ≤ c0 ∧ c0 ≤ maxLen ∧ ∀ x ∈ l0, (Lit.int .i64 x).wf = true) :
    Calls Try.prog 8 #[.slice A0 l0.length c0] w fun e w' => e = .returned (.bool true) ∧ Below w.heap.size w w' :=
  WClosesAt.core w A0 c0 l0 h0 hj0.1 hj0.2.1 (cloR l0).1 (cloR l0).2
    (Lib.hid fun A0 c0 w h0 hl0 hlc => spec_ClosesAt A0 c0 _ l0 w h0 (Nat.le_refl _) hl0 hlc)
    (Lib.hid fun A0 c0 w h0 hl0 hlc => impl_ClosesAt A0 c0 _ l0 w h0 (Nat.le_refl _) hl0 hlc)
end Go.Proofs.Ytkekjcfhkecggab
