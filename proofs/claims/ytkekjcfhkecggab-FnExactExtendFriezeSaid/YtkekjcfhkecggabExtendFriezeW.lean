/- ExtendFrieze: the program's contract and the law's walk. -/
import Derived.Test.YtkekjcfhkecggabFndI
import Derived.Test.YtkekjcfhkecggabExtendFriezeC
import Derived.Test.YtkekjcfhkecggabClone
namespace Go.Proofs.Ytkekjcfhkecggab
set_option linter.unusedVariables false
open Go.RowKit

def wtE (k : Int) (j : Nat) : Bool := decide ((j : Int) + 1 = k)
theorem fnd_ext (r : List Int) (k : Int) (K : Nat) (hk : k = (K : Int) + 1) (hK : K ≤ 8) : ∀ (f j : Nat), j + f = 9 → j ≤ K → itOk r j = true → fnd r (wtE k) f j = if itOk r K = true then (k, pad (itL r K).2, true) else (0, List.replicate 12 0, false) := by
  intro f
  induction f with
  | zero => intro j h1 h2 _; omega
  | succ f ih =>
    intro j h1 h2 h3
    show (if wtE k j = true then ((j : Int) + 1, pad (itL r j).2, true) else if nextOk (itL r j).1 (itL r j).2 = true then fnd r (wtE k) f (j + 1) else (0, List.replicate 12 0, false)) = _
    by_cases he : j = K
    · subst he
      rw [if_pos (by unfold wtE; simp [hk]), if_pos h3, hk]
    · rw [if_neg (by unfold wtE; simp; omega)]
      cases hn : nextOk (itL r j).1 (itL r j).2
      · rw [if_neg (by simp), if_neg (by rw [itOk_no r j K (by omega) hn]; simp)]
      · rw [if_pos rfl, ih (j + 1) (by omega) (by omega) (by rw [itOk_succ, h3, hn]; rfl)]

set_option maxRecDepth 100000 in
set_option maxHeartbeats 3200000 in
theorem impl_ExtendFrieze (A : Option Addr) (c B : Nat) (r : List Int) (k : Int) (w : World) (h : SlI w B A r) (hB : B ≤ w.heap.size) (hl : r.length ≤ 1048576) (hlc : r.length ≤ c) :
    Calls Try.prog 27 #[.slice A r.length c, .int .i64 k] w (RetI w (exR r k) (okEx r k)) := by
  have hmf : ∀ (fn : Fn) (first cap : Array Value) (w : World), (Instr.makeFunc fn first cap).run Try.prog w = .ok (.func fn first cap) w := fun _ _ _ _ => rfl
  obtain ⟨n, hn⟩ : ∃ n, r.length = n := ⟨_, rfl⟩
  have C1 : Hid (∀ w, SlI w B A r → B ≤ w.heap.size → Calls Try.prog 53 #[.slice A n c, .int .i64 100] w fun e w' => e = .returned (.bool (beginB r)) ∧ Below w.heap.size w w') := Lib.hid fun w h hB => by
    have := impl_isRow A c B r 100 w h hB hl
    rwa [hn] at this
  have hb0 : Below w.heap.size w (w.alloc (.cells #[.int .i64 k] 3)) := (Below.refl _ _).alloc (Nat.le_refl _) _
  have Hb0 := Lib.hid hb0
  have H := Lib.hid h
  have Hc : Hid ((w.alloc (.cells #[.int .i64 k] 3)).cell? ⟨w.heap.size, 0, none⟩ = some (.int .i64 k)) := Lib.hid (World.cell?_alloc_new w _ _ 0)
  have Hsz : Hid ((w.alloc (.cells #[.int .i64 k] 3)).heap.size = w.heap.size + 1) := Lib.hid (World.size_alloc _ _)
  have Hn := Lib.hid hn
  rw [hn] at hl hlc ⊢
  clear hb0 h hn
  go_enter Try.func27, Try.ntmps27
  go_wp2_with fail
  refine (C1.out _ (H.out.below (Hb0.out.mono hB)) (Nat.le_trans hB Hb0.out.size)).mono ?_
  rintro e w1 ⟨rfl, b1⟩
  have Hb1 := Lib.hid (below_kept Hb0.out (Nat.le_refl _) b1)
  have hc1 : w1.cell? ⟨w.heap.size, 0, none⟩ = some (.int .i64 k) := cell_kept b1 Hc.out
  have Hlt : Hid (w.heap.size < w1.heap.size) := Lib.hid (by have := b1.size; rw [Hsz.out] at this; omega)
  clear b1 Hb0 Hc Hsz C1
  cases hb : beginB r
  · have HE := Lib.hid (retE_no (r := r) (k := k) (by unfold okEx; rw [hb]; rfl) Hb1.out)
    clear hb
    go_wp2
    all_goals go_ret2
    all_goals exact HE.out
  · by_cases hk : 1 ≤ k ∧ k ≤ 9
    · obtain ⟨k1, k9⟩ := hk
      obtain ⟨⟨n3, n12⟩, hall⟩ := beginB_iff.1 hb
      obtain ⟨K, hK⟩ : ∃ K : Nat, k = (K : Int) + 1 := ⟨(k - 1).toNat, by omega⟩
      have hKn : (k - 1).toNat = K := by omega
      have hr := rowB_of hall (by omega)
      have hf := fnd_ext r k K hK (by omega) 9 0 rfl (Nat.zero_le _) rfl
      have hcall := impl_findBelowE w.heap.size (wtE k) A c B r w1 (H.out.below (Hb1.out.mono hB)) (Nat.le_trans hB Hb1.out.size) n3 n12 hr
        (Lib.hid fun j w' hb' _ _ => impl_ext1 w.heap.size k _ _ w' (cell_kept hb' hc1))
      rw [Hn.out] at hcall n3 n12
      have Hcall := Lib.hid hcall
      have Hf := Lib.hid hf
      have Yes : Hid (itOk r K = true → ∀ e w', RetI w (itL r K).2 true e w' → RetI w (exR r k) (okEx r k) e w') := Lib.hid fun hit e w' hh => retE_yes (okEx_iff.2 ⟨hb, ⟨k1, k9⟩, by rw [hKn]; exact hit⟩) e w' (by rw [hKn]; exact hh)
      have No : Hid (itOk r K = false → ∀ w', Below w.heap.size w w' → RetI w (exR r k) (okEx r k) (.returned (.tuple #[.slice none 0 0, .bool false])) w') := Lib.hid fun hit w' b => retE_no (by unfold okEx; rw [hKn, hit]; simp) b
      have Gd : Hid (itOk r K = true → (itL r K).2.length = n) := Lib.hid fun hit => by rw [(it_good hr K hit).1.2, Hn.out]
      clear hcall hf hb hall hK hKn hr
      go_wp2_with fail
      refine Hcall.out.mono ?_
      rintro e w2 ⟨rfl, b2⟩
      have hd2 := below_kept Hb1.out (Nat.le_refl _) b2
      have hwn : w.heap.size ≤ w2.heap.size := hd2.size
      have HZ : Hid (Blk (w2.alloc (.cells (ics (List.replicate 12 0)).toArray 47)) w2.heap.size 47 (List.replicate 12 0)) := Lib.hid (Blk.new _ _ _)
      have HB : Hid (Below w.heap.size w (w2.alloc (.cells (ics (List.replicate 12 0)).toArray 47))) := Lib.hid (hd2.alloc hwn _)
      rw [Hf.out]
      clear b2 hd2 Hcall Hb1 Hf hc1 Hlt
      cases hit : itOk r K
      · have HNo := Lib.hid (No.out hit)
        clear hit No Yes Gd
        rw [if_neg (by simp)]
        go_wp2_with (first
          | (refine wpList_store_band rfl (.tmp 7) (.tmp 25) rfl rfl w2.heap.size (List.replicate 12 0) rfl rfl 47 (List.replicate 12 0) HZ.out rfl rfl ?_
             intro w6 h6 g6
             have Hb6 := Lib.hid (below_grown HB.out g6 (Nat.le_refl _) (fun k hk => by injection hk with hk; omega))
             clear g6 HZ HB h6))
        go_ret2
        exact HNo.out _ Hb6.out
      · have hlen := Gd.out hit
        have Hyes := Lib.hid (Yes.out hit)
        have Hlen := Lib.hid hlen
        clear hit No Yes Gd hlen
        rw [if_pos rfl]
        generalize (itL r K).2 = R at *
        have Hpl : Hid ((pad R).length = 12) := Lib.hid (pad_length R (by rw [Hlen.out]; exact n12))
        have Ht : Hid ((pad R).take n = R) := Lib.hid (by have := pad_take R; rwa [Hlen.out] at this)
        have n1 : (n : Int) ≤ 12 := by omega
        have n0 : (0 : Int) ≤ (n : Int) := by omega
        go_wp2_with (first
          | (refine wpList_store_band rfl (.tmp 7) (.tmp 25) rfl rfl w2.heap.size (pad R) rfl rfl 47 (List.replicate 12 0) HZ.out rfl Hpl.out ?_
             intro w6 h6 g6
             have Hb6 := Lib.hid (below_grown HB.out g6 (Nat.le_refl _) (fun k hk => by injection hk with hk; omega))
             have H6 := Lib.hid (Band.of_heap (base := w.heap.size) h6 Hpl.out hwn)
             clear g6 HZ HB h6))
        have hsl := H6.out.sl n n12
        rw [Ht.out] at hsl
        refine (slices_Clone_n (some ⟨w2.heap.size, 0, none⟩) n 12 w6.heap.size R _ Hlen.out hsl (Nat.le_refl _) (by omega) (by omega)).mono ?_
        rintro e w7 ⟨A7, c7, rfl, o7, b7⟩
        have hE := Hyes.out (.returned (.tuple #[.slice A7 R.length c7, .bool true])) w7 ⟨A7, c7, rfl, o7.mono Hb6.out.size, below_kept Hb6.out (Nat.le_refl _) b7⟩
        have HE := Lib.hid hE
        clear hE o7 b7 hsl
        generalize R.length = z at *
        go_wp2
        go_ret2
        exact HE.out
    · have HE := Lib.hid (retE_no (r := r) (k := k) (by unfold okEx; rw [show inB k 1 9 = false by rw [Bool.eq_false_iff]; intro e; exact hk (inB_iff'.1 e)]; simp) Hb1.out)
      clear hb
      have hk2 : k < 1 ∨ 9 < k := by omega
      clear hk
      rcases hk2 with hk2 | hk2
      · go_wp2
        all_goals go_ret2
        all_goals exact HE.out
      · have hk3 : ¬ k < 1 := by omega
        go_wp2
        all_goals go_ret2
        all_goals exact HE.out

theorem WExtendFrieze.walk (w : World) (A0 : Option Addr) (c0 : Nat) (l0 : List Int) (h0 : SlI w w.heap.size A0 l0) (hj0 : l0.length ≤ c0 ∧ c0 ≤ maxLen ∧ ∀ x ∈ l0, (Lit.int .i64 x).wf = true)
    (a1 : Int) (h1 : (Lit.int .i64 a1).wf = true) :
    Calls Try.prog 7 #[.slice A0 l0.length c0, .int .i64 a1] w fun e w' => e = .returned (.bool true) ∧ Below w.heap.size w w' :=
  WExtendFrieze.core w A0 c0 l0 a1 h0 hj0.1 hj0.2.1 (exR l0 a1) (okEx l0 a1) (exR_length l0 a1)
    (Lib.hid fun A0 c0 w h0 hl0 hlc => spec_ExtendFrieze A0 c0 _ l0 a1 w h0 (Nat.le_refl _) hl0 hlc)
    (Lib.hid fun A0 c0 w h0 hl0 hlc => impl_ExtendFrieze A0 c0 _ l0 a1 w h0 (Nat.le_refl _) hl0 hlc)
end Go.Proofs.Ytkekjcfhkecggab
