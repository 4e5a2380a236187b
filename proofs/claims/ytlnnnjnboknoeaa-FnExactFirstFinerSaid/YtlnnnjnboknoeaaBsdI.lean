/- slices.BinarySearchFunc over diagonals, in order or not. -/
import Derived.Test.YtlnnnjnboknoeaaFreM
import Derived.Test.YtlnnnjnboknoeaaTriI
namespace Go.Proofs.Ytlnnnjnboknoeaa
set_option linter.unusedVariables false
open Go.RowKit

theorem cmpD_lt {a b c d : Int} : cmpD a b c d < 0 ↔ ltB a b c d = true := by
  unfold cmpD ltB
  rw [decide_eq_true_eq]
  split
  · omega
  · split
    · omega
    · split
      · omega
      · split <;> omega
/-- what the search tells: a place, the right one if the list is in order -/
def SrD (w : World) (l : List (Int × Int)) (d : Int × Int) (e : Ending) (w' : World) : Prop :=
  ∃ (i : Nat) (f : Bool), e = .returned (.tuple #[.int .i64 i, .bool f]) ∧ PosD l d i ∧ Below w.heap.size w w'
/-- all before a are less, none from b on is, if the list is in order -/
def BtD (l : List (Int × Int)) (d : Int × Int) (a b : Nat) : Prop := l.Pairwise ltD → (∀ x, x < a → x < l.length → ltD (l.getD x (0, 0)) d) ∧ ∀ x, b ≤ x → x < l.length → ¬ltD (l.getD x (0, 0)) d
theorem btD_pos {l : List (Int × Int)} {d : Int × Int} {a : Nat} (h : BtD l d a a) (ha : a ≤ l.length) : PosD l d a := by
  refine ⟨ha, fun hs => ?_⟩
  obtain ⟨h1, h2⟩ := h hs
  refine ⟨fun e he => ?_, fun e he => ?_⟩
  · obtain ⟨j, hj, rfl⟩ := List.mem_take_iff_getElem.1 he
    have := h1 j (by omega) (by omega)
    rwa [getD_at (by omega)] at this
  · obtain ⟨j, hj, rfl⟩ := List.mem_drop_iff_getElem.1 he
    have := h2 (a + j) (by omega) (by omega)
    rwa [getD_at (by omega)] at this
theorem btD_lt {l : List (Int × Int)} {d : Int × Int} {a b k : Nat} (h : BtD l d a b) (hk : k < l.length) (hl : ltD (l.getD k (0, 0)) d) : BtD l d (k + 1) b := fun hs => by
  obtain ⟨h1, h2⟩ := h hs
  refine ⟨fun x hx hxl => ?_, h2⟩
  by_cases e : x = k
  · rw [e]; exact hl
  · rw [getD_at hk] at hl
    rw [getD_at hxl]
    exact ltD_tr (List.pairwise_iff_getElem.1 hs x k hxl hk (by omega)) hl
theorem btD_ge {l : List (Int × Int)} {d : Int × Int} {a b k : Nat} (h : BtD l d a b) (hk : k < l.length) (hl : ¬ltD (l.getD k (0, 0)) d) : BtD l d a k := fun hs => by
  obtain ⟨h1, h2⟩ := h hs
  refine ⟨h1, fun x hx hxl hn => ?_⟩
  by_cases e : x = k
  · rw [e] at hn; exact hl hn
  · rw [getD_at hxl] at hn
    rw [getD_at hk] at hl
    exact hl (ltD_tr (List.pairwise_iff_getElem.1 hs k x hk hxl (by omega)) hn)

set_option maxRecDepth 100000 in
set_option maxHeartbeats 3200000 in
theorem slices_BinarySearchD (A : Option Addr) (n c B : Nat) (l : List (Int × Int)) (x y : Int) (w : World) (h : SlD w B A l) (hl : l.length = n) (hB : B ≤ w.heap.size) (hn : n ≤ 1100000) :
    Calls Try.prog 71 #[.slice A n c, .agg #[.int .i64 x, .int .i64 y], .func (.func 72) #[] #[]] w (SrD w l (x, y)) := by
  have Hl := Lib.hid hl
  have H := Lib.hid h
  clear hl h
  go_enter Try.func71, Try.ntmps71
  go_wp2
  go_loopw [9, 10, 11] (fun i j _ wr => ∃ a b : Nat, a ≤ b ∧ b ≤ n ∧ i = .int .i64 a ∧ j = .int .i64 b ∧ BtD l (x, y) a b ∧ wr.cell? ⟨w.heap.size, 0, none⟩ = some (.int .i64 x) ∧ wr.cell? ⟨w.heap.size, 1, none⟩ = some (.int .i64 y) ∧ Below w.heap.size w wr) (fun i j _ _ => (intOf j).toNat - (intOf i).toNat)
  case atStart => exact ⟨0, n, Nat.zero_le _, Nat.le_refl _, rfl, rfl, fun _ => ⟨fun x hx => by omega, fun x h1 h2 => by have := Hl.out; omega⟩, by simp [go_sem], by simp [go_sem], (Below.refl _ _).alloc (Nat.le_refl _) _⟩
  case round =>
    obtain ⟨a, b, hab, hbn, rfl, rfl, hbt, q0, q1, hb⟩ := hrel
    have Hbt := Lib.hid hbt
    have zB : B ≤ wr.heap.size := Nat.le_trans hB hb.size
    have hwr : w.heap.size < wr.heap.size := World.block_lt_of_cell? wr _ q0
    clear hbt
    by_cases hlt : a < b
    · obtain ⟨k, hk⟩ : ∃ k, k = (a + b) / 2 := ⟨_, rfl⟩
      have hk1 : a ≤ k := by omega
      have hk2 : k < b := by omega
      have hkl : k < l.length := by rw [Hl.out]; omega
      obtain ⟨b2, off, rfl, hbB, hc⟩ := H.out.below (hb.mono hB) (by omega)
      obtain ⟨g0, g1⟩ := hc k hkl
      have hL := fun hz => btD_lt Hbt.out hkl hz
      have hG := fun hz => btD_ge Hbt.out hkl hz
      have HL := Lib.hid hL
      have HG := Lib.hid hG
      clear hL hG hc
      generalize l.getD k (0, 0) = d at *
      obtain ⟨u, v⟩ := d
      dsimp only at g0 g1
      have a0 : (a : Int) < (b : Int) := by omega
      have hdiv : ((a : Int) + (b : Int)) / 2 = (k : Int) := by omega
      have hs0 : (0 : Int) ≤ (a : Int) + (b : Int) := by omega
      have hs1 : (a : Int) + (b : Int) ≤ 2200000 := by omega
      have k0 : (0 : Int) ≤ (k : Int) := by omega
      have k1 : (k : Int) < (n : Int) := by omega
      have k2 : (k : Int) ≤ 1100000 := by omega
      clear hk
      go_wp2
      go_region_held3 (fun w' => w'.cell? ⟨w.heap.size, 0, none⟩ = some (.int .i64 x) ∧ w'.cell? ⟨w.heap.size, 1, none⟩ = some (.int .i64 y) ∧
          w'.cell? ⟨b2, off + k * 2, none⟩ = some (.int .i64 u) ∧ w'.cell? ⟨b2, off + k * 2 + 1, none⟩ = some (.int .i64 v) ∧ Below w.heap.size w w')
        (first
          | exact kept4 (by assumption) hb1 (Nat.le_refl _)
          | exact ⟨q0, q1, g0, g1, hb.drew⟩)
        (first
          | (go_at_call 72; refine (impl_compareDiagonals u v x y _).mono ?_; rintro e w3 ⟨rfl, hb1⟩))
      rename_i hS
      have R0 := Lib.hid hS.1
      have R1 := Lib.hid hS.2.1
      have B3 := Lib.hid hS.2.2.2.2
      clear hS hb1 hb g0 g1 q0 q1
      by_cases hz : cmpD u v x y < 0
      · have HR := Lib.hid (HL.out (cmpD_lt.1 hz))
        clear HL HG Hbt
        generalize cmpD u v x y = z at *
        go_wp2
        go_roundw
        case rel => exact ⟨k + 1, b, by omega, by omega, by go_num, rfl, HR.out, R0.out, R1.out, B3.out⟩
        case measure => simp [intOf]; omega
      · have HR := Lib.hid (HG.out (fun hl => hz (cmpD_lt.2 hl)))
        clear HL HG Hbt
        generalize cmpD u v x y = z at *
        go_wp2
        go_roundw
        case rel => exact ⟨a, k, by omega, by omega, rfl, rfl, HR.out, R0.out, R1.out, B3.out⟩
        case measure => simp [intOf]; omega
    · obtain rfl : a = b := by omega
      have Hp := Lib.hid (btD_pos Hbt.out (by rw [Hl.out]; exact hbn))
      clear Hbt
      by_cases hlm : a < n
      · obtain ⟨b2, off, rfl, hbB, hc⟩ := H.out.below (hb.mono hB) (by have := Hl.out; omega)
        obtain ⟨g0, g1⟩ := hc a (by rw [Hl.out]; exact hlm)
        clear hc
        generalize l.getD a (0, 0) = d at *
        obtain ⟨u, v⟩ := d
        dsimp only at g0 g1
        have k0 : (0 : Int) ≤ (a : Int) := by omega
        have k1 : (a : Int) < (n : Int) := by omega
        go_wp2
        go_region_held3 (fun w' => w'.cell? ⟨w.heap.size, 0, none⟩ = some (.int .i64 x) ∧ w'.cell? ⟨w.heap.size, 1, none⟩ = some (.int .i64 y) ∧
            w'.cell? ⟨b2, off + a * 2, none⟩ = some (.int .i64 u) ∧ w'.cell? ⟨b2, off + a * 2 + 1, none⟩ = some (.int .i64 v) ∧ Below w.heap.size w w')
          (first
            | exact kept4 (by assumption) hb1 (Nat.le_refl _)
            | exact ⟨q0, q1, g0, g1, hb.drew⟩)
          (first
          | (go_at_call 72; refine (impl_compareDiagonals u v x y _).mono ?_; rintro e w3 ⟨rfl, hb1⟩))
        rename_i hS
        have B3 := Lib.hid hS.2.2.2.2
        clear hS hb1 hb g0 g1 q0 q1
        generalize cmpD u v x y = z at *
        have Hres := Lib.hid (show ∀ f : Bool, SrD w l (x, y) (.returned (.tuple #[.int .i64 a, .bool f])) w3 from fun f => ⟨a, f, rfl, Hp.out, B3.out⟩)
        by_cases hz0 : z = 0
        · subst hz0
          go_wp2
          go_ret2
          exact Hres.out _
        · have hzb : (z == 0) = false := by simpa using hz0
          go_wp2
          go_ret2
          exact Hres.out _
      · have k1 : ¬ (a : Int) < (n : Int) := by omega
        go_wp2
        refine wp_region_held_drew (S := (fun w' => Below w.heap.size w w')) (by kernel_rfl) ?_ (fun hH => ?_)
        · exact hb.drew
        refine wpAnyH_take (i := 0) (oi := _) (v := ?_) rfl (by kernel_rfl) (by kernel_rfl) (by kernel_rfl) (fun _ _ _ h => h) (Or.inl ⟨by rfl, ?_⟩) hH ?_
        rotate_left
        · (intro w hSw; (try dsimp only at hSw); go_simp <;> (with_reducible rfl))
        try simp only [Act.put, List.getElem_toArray, List.getElem_cons_zero, List.setIfInBounds_toArray, List.set_cons_zero, List.set_cons_succ]
        refine wpAnyH_take (i := 1) (oi := _) (v := ?_) rfl (by kernel_rfl) (by kernel_rfl) (by kernel_rfl) (fun _ _ _ h => h) (Or.inl ⟨by rfl, ?_⟩) hH ?_
        rotate_left
        · (intro w hSw; (try dsimp only at hSw); go_simp <;> (with_reducible rfl))
        try simp only [Act.put, List.getElem_toArray, List.getElem_cons_succ, List.getElem_cons_zero, List.setIfInBounds_toArray, List.set_cons_zero, List.set_cons_succ]
        refine wpAnyH_take (i := 2) (oi := _) (v := ?_) rfl (by kernel_rfl) (by kernel_rfl) (by kernel_rfl) (fun _ _ _ h => h) (Or.inl ⟨by rfl, ?_⟩) hH ?_
        rotate_left
        · (intro w hSw; (try dsimp only at hSw); go_simp <;> (with_reducible rfl))
        try simp only [Act.put, List.getElem_toArray, List.getElem_cons_succ, List.getElem_cons_zero, List.setIfInBounds_toArray, List.set_cons_zero, List.set_cons_succ]
        refine wpAnyH_take (i := 3) (oi := _) (v := ?_) rfl (by kernel_rfl) (by kernel_rfl) (by kernel_rfl) (fun _ _ _ h => h) (Or.inl ⟨by rfl, ?_⟩) hH ?_
        rotate_left
        · (intro w hSw; (try dsimp only at hSw); go_simp <;> (with_reducible rfl))
        try simp only [Act.put, List.getElem_toArray, List.getElem_cons_succ, List.getElem_cons_zero, List.setIfInBounds_toArray, List.set_cons_zero, List.set_cons_succ]
        refine wpAnyH_take (i := 4) (oi := _) (v := ?_) rfl (by kernel_rfl) (by kernel_rfl) (by kernel_rfl) (fun _ _ _ h => h) (Or.inl ⟨by rfl, ?_⟩) hH ?_
        rotate_left
        · (intro w hSw; (try dsimp only at hSw); go_simp <;> (with_reducible rfl))
        try simp only [Act.put, List.getElem_toArray, List.getElem_cons_succ, List.getElem_cons_zero, List.setIfInBounds_toArray, List.set_cons_zero, List.set_cons_succ]
        refine wpAnyH_take (i := 5) (oi := _) (v := undef) rfl (by kernel_rfl) (by kernel_rfl) (by kernel_rfl) (fun _ _ _ h => h) (Or.inr ⟨rfl, rfl⟩) hH ?_
        try simp only [Act.put, List.getElem_toArray, List.getElem_cons_succ, List.getElem_cons_zero, List.setIfInBounds_toArray, List.set_cons_zero, List.set_cons_succ]
        refine wpAnyH_take (i := 6) (oi := _) (v := undef) rfl (by kernel_rfl) (by kernel_rfl) (by kernel_rfl) (fun _ _ _ h => h) (Or.inr ⟨rfl, rfl⟩) hH ?_
        try simp only [Act.put, List.getElem_toArray, List.getElem_cons_succ, List.getElem_cons_zero, List.setIfInBounds_toArray, List.set_cons_zero, List.set_cons_succ]
        refine wpAnyH_take (i := 7) (oi := _) (v := undef) rfl (by kernel_rfl) (by kernel_rfl) (by kernel_rfl) (fun _ _ _ h => h) (Or.inr ⟨rfl, rfl⟩) hH ?_
        try simp only [Act.put, List.getElem_toArray, List.getElem_cons_succ, List.getElem_cons_zero, List.setIfInBounds_toArray, List.set_cons_zero, List.set_cons_succ]
        refine wpAnyH_take (i := 8) (oi := _) (v := undef) rfl (by kernel_rfl) (by kernel_rfl) (by kernel_rfl) (fun _ _ _ h => h) (Or.inr ⟨rfl, rfl⟩) hH ?_
        try simp only [Act.put, List.getElem_toArray, List.getElem_cons_succ, List.getElem_cons_zero, List.setIfInBounds_toArray, List.set_cons_zero, List.set_cons_succ]
        refine wpAnyH_take (i := 9) (oi := _) (v := undef) rfl (by kernel_rfl) (by kernel_rfl) (by kernel_rfl) (fun _ _ _ h => h) (Or.inr ⟨rfl, rfl⟩) hH ?_
        try simp only [Act.put, List.getElem_toArray, List.getElem_cons_succ, List.getElem_cons_zero, List.setIfInBounds_toArray, List.set_cons_zero, List.set_cons_succ]
        refine wpAnyH_take (i := 10) (oi := _) (v := undef) rfl (by kernel_rfl) (by kernel_rfl) (by kernel_rfl) (fun _ _ _ h => h) (Or.inr ⟨rfl, rfl⟩) hH ?_
        try simp only [Act.put, List.getElem_toArray, List.getElem_cons_succ, List.getElem_cons_zero, List.setIfInBounds_toArray, List.set_cons_zero, List.set_cons_succ]
        refine wpAnyH_take (i := 11) (oi := _) (v := undef) rfl (by kernel_rfl) (by kernel_rfl) (by kernel_rfl) (fun _ _ _ h => h) (Or.inr ⟨rfl, rfl⟩) hH ?_
        try simp only [Act.put, List.getElem_toArray, List.getElem_cons_succ, List.getElem_cons_zero, List.setIfInBounds_toArray, List.set_cons_zero, List.set_cons_succ]
        refine wpAnyH_take (i := 12) (oi := _) (v := undef) rfl (by kernel_rfl) (by kernel_rfl) (by kernel_rfl) (fun _ _ _ h => h) (Or.inr ⟨rfl, rfl⟩) hH ?_
        try simp only [Act.put, List.getElem_toArray, List.getElem_cons_succ, List.getElem_cons_zero, List.setIfInBounds_toArray, List.set_cons_zero, List.set_cons_succ]
        refine wpAnyH_take (i := 13) (oi := _) (v := ?_) rfl (by kernel_rfl) (by kernel_rfl) (by kernel_rfl) (fun _ _ _ h => h) (Or.inl ⟨by rfl, ?_⟩) hH ?_
        rotate_left
        · (intro w hSw; (try dsimp only at hSw); go_simp <;> (with_reducible rfl))
        try simp only [Act.put, List.getElem_toArray, List.getElem_cons_succ, List.getElem_cons_zero, List.setIfInBounds_toArray, List.set_cons_zero, List.set_cons_succ]
        refine wpAnyH_take (i := 14) (oi := _) (v := ?_) rfl (by kernel_rfl) (by kernel_rfl) (by kernel_rfl) (fun _ _ _ h => h) (Or.inl ⟨by rfl, ?_⟩) hH ?_
        rotate_left
        · (intro w hSw; (try dsimp only at hSw); go_simp <;> (with_reducible rfl))
        try simp only [Act.put, List.getElem_toArray, List.getElem_cons_succ, List.getElem_cons_zero, List.setIfInBounds_toArray, List.set_cons_zero, List.set_cons_succ]
        refine wpAnyH_take (i := 15) (oi := _) (v := ?_) rfl (by kernel_rfl) (by kernel_rfl) (by kernel_rfl) (fun _ _ _ h => h) (Or.inl ⟨by rfl, ?_⟩) hH ?_
        rotate_left
        · (intro w hSw; (try dsimp only at hSw); go_simp <;> (with_reducible rfl))
        try simp only [Act.put, List.getElem_toArray, List.getElem_cons_succ, List.getElem_cons_zero, List.setIfInBounds_toArray, List.set_cons_zero, List.set_cons_succ]
        refine wpAnyH_done (by kernel_rfl) ?_ _
        have hres : ∀ f : Bool, SrD w l (x, y) (.returned (.tuple #[.int .i64 a, .bool f])) _ := fun f => ⟨a, f, rfl, Hp.out, hH⟩
        have Hres := Lib.hid hres
        clear hres hH hb
        go_wp2
        go_ret2
        exact Hres.out _
end Go.Proofs.Ytlnnnjnboknoeaa
