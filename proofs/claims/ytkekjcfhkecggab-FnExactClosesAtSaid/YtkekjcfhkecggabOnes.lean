/- slices.Repeat of one number, and the program's onesBand. -/
import Derived.Test.YtkekjcfhkecggabBandB
namespace Go.Proofs.Ytkekjcfhkecggab
set_option linter.unusedVariables false
open Go.RowKit

set_option maxRecDepth 100000 in
set_option maxHeartbeats 3200000 in
theorem bits_Mul (n : Nat) (hn : n ≤ 12) (w : World) : Calls Try.prog 82 #[.int .u64 1, .int .u64 n] w fun e w' => e = .returned (.tuple #[.int .u64 0, .int .u64 n]) ∧ w = w' := by
  have h : n = 0 ∨ n = 1 ∨ n = 2 ∨ n = 3 ∨ n = 4 ∨ n = 5 ∨ n = 6 ∨ n = 7 ∨ n = 8 ∨ n = 9 ∨ n = 10 ∨ n = 11 ∨ n = 12 := by omega
  rcases h with rfl | rfl | rfl | rfl | rfl | rfl | rfl | rfl | rfl | rfl | rfl | rfl | rfl
  all_goals go_enter Try.func82, Try.ntmps82
  all_goals go_wp2
  all_goals go_ret2
  all_goals exact ⟨rfl, rfl⟩

/-- d ones of n, zeros behind them -/
def onesL (n d : Nat) : List Int := List.replicate d 1 ++ List.replicate (n - d) 0
theorem onesL_length (n d : Nat) (h : d ≤ n) : (onesL n d).length = n := by simp [onesL]; omega
theorem onesL_zero (n : Nat) : onesL n 0 = List.replicate n 0 := by simp [onesL]
theorem onesL_all (n : Nat) : onesL n n = List.replicate n 1 := by simp [onesL]
theorem onesL_splice (n d m : Nat) (h : d + m ≤ n) : splice (onesL n d) d (List.replicate m 1) = onesL n (d + m) := by
  unfold splice onesL
  rw [List.take_append_of_le_length (by simp), List.take_of_length_le (by simp), List.length_replicate, List.drop_append, List.drop_of_length_le (by simp)]
  simp only [List.length_replicate, List.nil_append, List.drop_replicate]
  rw [← List.append_assoc, List.replicate_append_replicate]
  congr 2
  omega
theorem onesL_get (n d j : Nat) (h : j < d) : (onesL n d).getD j 0 = 1 := by
  unfold onesL
  simp only [List.getD_eq_getElem?_getD]
  rw [List.getElem?_append_left (by simpa using h), List.getElem?_replicate, if_pos h]
  rfl
theorem Blk.of_own {w : World} {base g n : Nat} {t : TypeId} {L : List Int} (h : w.ownsRow base t 1 (.slice (some ⟨g, 0, none⟩) n n) n (ics L)) : Blk w g t L := by
  have h1 := h.1
  rw [ics_length] at h1
  rcases h.2 with ⟨h', _⟩ | ⟨g', cap, cur, h', _, hh, _, _, hs, ht⟩
  · cases h'
  · cases h'
    have e : cur = (ics L).toArray := by
      rw [← ht]
      apply Array.ext'
      rw [List.take_of_length_le]
      simp; omega
    rw [e] at hh
    exact hh
theorem Blk.own {w : World} {base g n : Nat} {t : TypeId} {L : List Int} (h : Blk w g t L) (hL : L.length = n) (hn : n ≤ 1000) (hb : base ≤ g) : w.ownsRow base t 1 (.slice (some ⟨g, 0, none⟩) n n) n (ics L) := by
  refine ⟨by rw [ics_length, hL]; omega, .inr ⟨g, n, _, rfl, hb, h, Nat.le_refl _, by unfold maxLen; omega, by simp [ics_length, hL], ?_⟩⟩
  rw [List.take_of_length_le]
  simp [ics_length, hL]

set_option maxRecDepth 100000 in
set_option maxHeartbeats 3200000 in
theorem slices_Repeat1 (g n : Nat) (w : World) (h0 : w.cell? ⟨g, 0, none⟩ = some (.int .i64 1)) (hn1 : 1 ≤ n) (hn12 : n ≤ 12) :
    Calls Try.prog 72 #[.slice (some ⟨g, 0, none⟩) 1 1, .int .i64 n] w (GivI w (List.replicate n 1)) := by
  have hgw : g < w.heap.size := World.block_lt_of_cell? w _ h0
  obtain ⟨i0', hii, hz0, hz1, hz3⟩ := info_parts infoI
  have hbytes : i0'.bytes * n ≤ 281474976710656 := by rw [hz3]; omega
  have hmax : n ≤ maxLen := by unfold maxLen; omega
  have n0 : (0 : Int) ≤ (n : Int) := by omega
  have n1 : (n : Int) ≤ 12 := by omega
  have k0 : (1 : Int) ≤ (n : Int) := by omega
  go_enter Try.func72, Try.ntmps72
  go_wp2_with fail
  refine (bits_Mul n hn12 _).mono ?_
  rintro e w1 ⟨rfl, rfl⟩
  go_wp2_with (first
    | (at_make; refine wpList_make_full _ rfl _ _ _ rfl w.heap.size 3 i0' (.int .i64 0) 1 Try.underlying22 hii hz0 hz1 _ _ _ _ n rfl rfl rfl rfl hbytes hmax (Nat.le_refl _) ?_
       intro w3 hown3 hgrow3
       have hb3 : Below w.heap.size w w3 := (Below.refl _ _).grown hgrow3 (Nat.le_refl _) (fun _ e => by cases e)
       have e1 : (madeCells (Value.int .i64 0).cells (n * 1)).toList = ics (onesL n 0) := by
         rw [Nat.mul_one]
         show (madeCells #[Value.int .i64 0] n).toList = _
         rw [toList_madeCells_one]
         simp [ics, onesL]
       rw [e1] at hown3
       have HB3 := Lib.hid (Blk.of_own hown3)
       have HS3 : Hid (SlI w3 w.heap.size (some ⟨g, 0, none⟩) [1]) := Lib.hid (fun _ => ⟨g, 0, rfl, hgw, fun j hj => by
         obtain rfl : j = 0 := by simpa using hj
         exact cell_kept hb3 h0⟩)
       have Hb3 := Lib.hid hb3
       clear hown3 hgrow3 e1 hb3)
    | (refine wpList_copyR rfl (.tmp 31) (.tmp 32) rfl (some ⟨w.heap.size, 0, none⟩) (some ⟨g, 0, none⟩) n n 1 1 rfl rfl w.heap.size 0 (onesL n 0) 3 HB3.out [1] (by show 1 = min 1 n; omega) (sl_pos HS3.out) (by rw [onesL_length n 0 (Nat.zero_le _)]; simpa using hn1) ?_
       intro w4 h4 g4
       have e4 := onesL_splice n 0 1 (by omega)
       rw [show (List.replicate 1 (1 : Int)) = [1] from rfl] at e4
       rw [e4] at h4
       have H4 : Hid (Blk w4 w.heap.size 3 (onesL n 1)) := Lib.hid h4
       have Hb4 := Lib.hid (below_grown Hb3.out g4 (Nat.le_refl _) (fun k hk => by injection hk with hk; omega))
       clear h4 g4 e4 HB3 HS3 Hb3))
  clear h0 hgw hii hz0 hz1 hz3 hbytes hmax
  go_loopw [8] (fun v wr => ∃ d : Nat, 1 ≤ d ∧ d ≤ n ∧ v = .int .i64 d ∧ Blk wr w.heap.size 3 (onesL n d) ∧ Below w.heap.size w wr) (fun v _ => n - (intOf v).toNat)
  case atStart => exact ⟨1, Nat.le_refl _, hn1, rfl, H4.out, Hb4.out⟩
  case round =>
    clear H4 Hb4
    obtain ⟨d, hd1, hdn, rfl, hblk, hb⟩ := hrel
    by_cases hlt : d < n
    · obtain ⟨m, hm⟩ : ∃ m, m = min d (n - d) := ⟨_, rfl⟩
      have hm1 : 1 ≤ m := by omega
      have HH := Lib.hid hblk
      have Hb := Lib.hid hb
      have Hm : Hid ((List.replicate m (1 : Int)).length = min d (n - d)) := Lib.hid (by rw [List.length_replicate, hm])
      have HC : Hid (∀ j, j < m → wr.cell? ⟨w.heap.size, 0 + j, none⟩ = some (.int .i64 ((List.replicate m (1 : Int)).getD j 0))) := Lib.hid fun j hj => by
        have := hblk.cell j (by rw [onesL_length n d hdn]; omega)
        rw [onesL_get n d j (by omega)] at this
        have e : (List.replicate m (1 : Int)).getD j 0 = 1 := by simp [List.getD_eq_getElem?_getD, List.getElem?_replicate, hj]
        rw [e, Nat.zero_add]
        exact this
      have Hf : Hid (d + (List.replicate m (1 : Int)).length ≤ (onesL n d).length) := Lib.hid (by rw [onesL_length n d hdn, List.length_replicate]; omega)
      have Hsp := Lib.hid (onesL_splice n d m (by omega))
      have d0 : (0 : Int) ≤ (d : Int) := by omega
      have d1 : (d : Int) ≤ (n : Int) := by omega
      have d2 : (d : Int) < (n : Int) := by omega
      have hmd : d + m ≤ n := by omega
      have hnd : ¬ n = d := by omega
      have hmn : (m : Int) ≤ 12 := by omega
      have hmw : IntKind.i64.wrap ((d : Int) + (m : Int)) = (d : Int) + (m : Int) := IntWalk.i64_in _ (by omega)
      have hmm : m ≤ d := by omega
      clear hblk hb hm
      go_wp2
      go_region_held3 (fun w' => Below w.heap.size w w')
        (first
          | assumption
          | exact Hb.out.drew
          | exact hb5)
        (first
          | (refine step_copyR rfl _ _ rfl _ _ _ _ _ _ rfl rfl w.heap.size d (onesL n d) 3 HH.out (List.replicate m 1) Hm.out (fun _ => ⟨by simp [hnd], _, rfl, fun j hj => by rw [Addr.add_lit]; exact HC.out j (by simpa using hj)⟩) Hf.out ?_
             intro w5 h5 g5
             have hb5 := below_grown Hb.out.drew g5 (Nat.le_refl _) (fun k hk => by injection hk with hk; omega)))
      rename_i hS5
      rw [Hsp.out] at h5
      have H5 : Hid (Blk w5 w.heap.size 3 (onesL n (d + m))) := Lib.hid h5
      have HS5 := Lib.hid hS5
      clear h5 g5 hS5 HH Hb Hm HC Hf Hsp
      go_wp2
      go_roundw
      case rel => exact ⟨d + m, by omega, by omega, by go_num, H5.out, HS5.out⟩
      case measure => simp [intOf]; omega
    · obtain rfl : d = n := by omega
      have hE : GivI w (List.replicate d 1) (.returned (.slice (some ⟨w.heap.size, 0, none⟩) d d)) wr := by
        rw [onesL_all] at hblk
        have e : (List.replicate d (1 : Int)).length = d := by simp
        exact ⟨some ⟨w.heap.size, 0, none⟩, d, by rw [e], by rw [e]; exact hblk.own e (by omega) (Nat.le_refl _), hb⟩
      have HE := Lib.hid hE
      clear hE hblk hb
      go_wp2
      go_ret
      exact HE.out
end Go.Proofs.Ytkekjcfhkecggab
