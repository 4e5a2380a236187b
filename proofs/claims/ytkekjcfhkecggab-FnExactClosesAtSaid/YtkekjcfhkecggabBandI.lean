/- The program's isRow, bandOf and bandBelow. -/
import Derived.Test.YtkekjcfhkecggabRowOfFriezeW
import Derived.Test.YtkekjcfhkecggabNextS
import Derived.Test.YtkekjcfhkecggabQuidI
namespace Go.Proofs.Ytkekjcfhkecggab
set_option linter.unusedVariables false
open Go.RowKit

def rowP (n x : Int) : Bool := decide (x < 1 ∨ n < x)
theorem impl_row1 (g : Nat) (n x : Int) (w : World) (h0 : w.cell? ⟨g, 0, none⟩ = some (.int .i64 n)) :
    Calls Try.prog 69 #[.int .i64 x, .pointer (some ⟨g, 0, none⟩)] w fun e w' => e = .returned (.bool (rowP n x)) ∧ w = w' := by
  go_enter Try.func69, Try.ntmps69
  go_wp2
  all_goals go_ret
  all_goals refine ⟨ret_bool ?_, rfl⟩
  all_goals (unfold rowP; rw [Bool.eq_iff_iff]; simp <;> omega)

def rowAny (n : Int) (l : List Int) : Bool := l.any (rowP n)
theorem rowAny_take (n : Int) (l : List Int) (k : Nat) (h : k < l.length) : rowAny n (l.take (k + 1)) = (rowAny n (l.take k) || rowP n (l.getD k 0)) := by
  unfold rowAny
  rw [List.take_succ_eq_append_getElem h, List.any_append]
  simp [h]
theorem rowAny_hit (n : Int) (l : List Int) (k : Nat) (h : k < l.length) (hc : rowP n (l.getD k 0) = true) : rowAny n l = true := by
  unfold rowAny
  rw [List.any_eq_true]
  refine ⟨l[k], List.getElem_mem h, ?_⟩
  have e : l.getD k 0 = l[k] := by simp [h]
  rw [e] at hc
  exact hc

set_option maxHeartbeats 800000 in
theorem indexFunc_row (g : Nat) (n : Int) (A : Option Addr) (c B : Nat) (l : List Int) (w : World) (h0 : w.cell? ⟨g, 0, none⟩ = some (.int .i64 n))
    (h : SlI w B A l) (hl : l.length ≤ 1000000000) :
    Calls Try.prog 78 #[.slice A l.length c, .func (.func 69) #[] #[.pointer (some ⟨g, 0, none⟩)]] w (FoundI (rowAny n l) w) := by
  go_enter Try.func78, Try.ntmps78
  go_wp2
  go_loop [5, 8] (fun _ i => ∃ k : Nat, k ≤ l.length ∧ i = .int .i64 k ∧ rowAny n (l.take k) = false) (fun _ i => l.length - (intOf i).toNat)
  case atStart => exact ⟨0, Nat.zero_le _, rfl, by simp [rowAny]⟩
  case round =>
    obtain ⟨k, hk, rfl, hno⟩ := hrel
    by_cases hlt : k < l.length
    · obtain ⟨b', off, rfl, hbB, hc⟩ := h (by omega)
      have g0 := hc k hlt
      have i0 : (0 : Int) ≤ (k : Int) := by omega
      have i1 : (k : Int) < (l.length : Int) := by omega
      have hst := rowAny_take n l k hlt
      have hhit := rowAny_hit n l k hlt
      rw [hno, Bool.false_or] at hst
      clear hc h hno
      generalize l.getD k 0 = x at *
      have Hst := Lib.hid hst
      have Hhit := Lib.hid hhit
      clear hst hhit
      go_wp2_with fail
      refine (impl_row1 g n x _ h0).mono ?_
      rintro e w1 ⟨rfl, rfl⟩
      clear g0 h0
      cases hx : rowP n x
      · go_wp2
        go_round
        case rel => exact ⟨k + 1, by omega, by go_num, by rw [Hst.out, hx]⟩
        case measure => simp [intOf]; omega
      · go_wp2
        go_ret
        exact ⟨k, rfl, by rw [Hhit.out hx]; simp, rfl⟩
    · obtain rfl : k = l.length := by omega
      rw [List.take_length] at hno
      have Hno := Lib.hid hno
      clear hno
      go_wp2
      go_ret
      exact ⟨-1, rfl, by rw [Hno.out]; rfl, rfl⟩

theorem containsFunc_row (g : Nat) (n : Int) (A : Option Addr) (c B : Nat) (l : List Int) (w : World) (h0 : w.cell? ⟨g, 0, none⟩ = some (.int .i64 n))
    (h : SlI w B A l) (hl : l.length ≤ 1000000000) :
    Calls Try.prog 64 #[.slice A l.length c, .func (.func 69) #[] #[.pointer (some ⟨g, 0, none⟩)]] w fun e w' => e = .returned (.bool (rowAny n l)) ∧ w = w' := by
  go_enter Try.func64, Try.ntmps64
  go_wp2_with fail
  refine (indexFunc_row g n A c B l _ h0 h hl).mono ?_
  rintro e w1 ⟨r, rfl, hr, rfl⟩
  have Hr := Lib.hid hr
  clear hr h0 h
  go_wp2
  all_goals go_ret
  exact ⟨ret_bool Hr.out, rfl⟩


theorem rowAny_allB (l : List Int) (n : Int) : rowAny n l = !allB l 1 n := by
  unfold rowAny allB
  induction l with
  | nil => rfl
  | cons x r ih =>
    rw [List.any_cons, List.all_cons, ih, Bool.not_and]
    congr 1
    unfold rowP
    rw [Bool.eq_iff_iff]
    simp

/-- a row of 3..12 numbers, each in 1..n -/
def isRowB (l : List Int) (n : Int) : Bool := poB l.length && allB l 1 n
set_option maxRecDepth 100000 in
theorem impl_isRow (A : Option Addr) (c B : Nat) (l : List Int) (n : Int) (w : World) (h : SlI w B A l) (hB : B ≤ w.heap.size) (hl : l.length ≤ 1048576) :
    Calls Try.prog 53 #[.slice A l.length c, .int .i64 n] w fun e w' => e = .returned (.bool (isRowB l n)) ∧ Below w.heap.size w w' := by
  have hmf : ∀ (fn : Fn) (first cap : Array Value) (w : World), (Instr.makeFunc fn first cap).run Try.prog w = .ok (.func fn first cap) w := fun _ _ _ _ => rfl
  have hfin : isRowB l n = (poB l.length && allB l 1 n) := rfl
  have Hfin := Lib.hid hfin
  clear hfin
  have hb : Below w.heap.size w (w.alloc (.cells #[.int .i64 n] 3)) := (Below.refl _ _).alloc (Nat.le_refl _) _
  cases hp : poB l.length
  · go_enter Try.func53, Try.ntmps53
    go_wp2_with (go_at_call 68; ((with_reducible refine (impl_isPolygon _ _ _ hp).mono ?_); rintro e w' ⟨rfl, rfl⟩))
    go_ret
    exact ⟨ret_bool (by rw [Hfin.out, hp]; rfl), hb⟩
  · have hs := h.below (hb.mono hB)
    go_enter Try.func53, Try.ntmps53
    go_wp2_with (go_at_call 68; ((with_reducible refine (impl_isPolygon _ _ _ hp).mono ?_); rintro e w' ⟨rfl, rfl⟩))
    refine (containsFunc_row w.heap.size n A c B l _ ?h0 hs (by omega)).mono ?_
    case h0 => simp [go_sem]
    rintro e w1 ⟨rfl, rfl⟩
    clear hs h
    go_wp2
    go_ret
    exact ⟨ret_bool (by rw [Hfin.out, hp, rowAny_allB]; simp), hb⟩

theorem band_splice (q : List Int) : splice (List.replicate 12 0) 0 q = pad q := by
  unfold splice pad
  rw [List.take_zero, List.nil_append, Nat.zero_add, List.drop_replicate]
set_option maxRecDepth 100000 in
set_option maxHeartbeats 3200000 in
theorem impl_bandOf (A : Option Addr) (c B : Nat) (l : List Int) (w : World) (h : SlI w B A l) (hB : B ≤ w.heap.size) (hl : l.length ≤ 12) :
    Calls Try.prog 70 #[.slice A l.length c] w fun e w' => e = .returned (.agg (ics (pad l)).toArray) ∧ Below w.heap.size w w' := by
  have HZ1 : Hid (Blk ((w.alloc (.cells (ics (List.replicate 12 0)).toArray 47)).alloc (.cells (ics (List.replicate 12 0)).toArray 47)) (w.heap.size + 1) 47 (List.replicate 12 0)) := Lib.hid (Blk.new1 _ _ _ _)
  have HZ0 : Hid (Blk ((w.alloc (.cells (ics (List.replicate 12 0)).toArray 47)).alloc (.cells (ics (List.replicate 12 0)).toArray 47)) w.heap.size 47 (List.replicate 12 0)) := Lib.hid ((Blk.new _ _ _).alloc _)
  have hB0 : Below w.heap.size w ((w.alloc (.cells (ics (List.replicate 12 0)).toArray 47)).alloc (.cells (ics (List.replicate 12 0)).toArray 47)) := ((Below.refl _ _).alloc (Nat.le_refl _) _).alloc (by simp) _
  have HS : Hid (SlI ((w.alloc (.cells (ics (List.replicate 12 0)).toArray 47)).alloc (.cells (ics (List.replicate 12 0)).toArray 47)) B A l) := Lib.hid (h.below (hB0.mono hB))
  have HB := Lib.hid hB0
  have Hlen := Lib.hid (pad_length l hl)
  clear hB0 h
  go_enter Try.func70, Try.ntmps70
  go_wp2_with (first
    | (refine wpList_copyR rfl (.tmp 4) (.tmp 5) rfl (some ⟨w.heap.size + 1, 0, none⟩) A 12 12 l.length c rfl rfl (w.heap.size + 1) 0 (List.replicate 12 0) 47 HZ1.out l (min12 hl) (sl_pos HS.out) (by simp; omega) ?_
       intro w3 h3 g3
       rw [band_splice] at h3
       have hz3 := Blk.grown HZ0.out g3 (by omega)
       have hb3 := below_grown HB.out g3 (Nat.le_refl _) (fun k hk => by injection hk with hk; omega)
       have H3 := Lib.hid h3
       have Hz3 := Lib.hid hz3
       have Hb3 := Lib.hid hb3
       clear g3 HZ1 HZ0 HB HS h3 hz3 hb3)
    | (refine wpList_load_row rfl 47 (.tmp 3) rfl (w.heap.size + 1) rfl 47 (ics (pad l)).toArray (0, 0) _ H3.out Try.underlying47 rfl (by rw [band_size]; simp [ics_length, Hlen.out]) ?_)
    | (refine wpList_store_band rfl (.tmp 2) (.tmp 7) rfl rfl w.heap.size (pad l) rfl rfl 47 (List.replicate 12 0) Hz3.out rfl Hlen.out ?_
       intro w5 h5 g5
       have hb5 := below_grown Hb3.out g5 (Nat.le_refl _) (fun k hk => by injection hk with hk; omega)
       have H5 := Lib.hid h5
       clear g5 h5))
  exact bodyPost_ret (v := .agg (ics (pad l)).toArray) (results_cell_row (fn := Try.f70) rfl _ w5 w.heap.size 47 _ (0, 0) _ rfl H5.out Try.underlying47 rfl (by rw [band_size]; simp [ics_length, Hlen.out])) rfl ⟨rfl, hb5⟩

end Go.Proofs.Ytkekjcfhkecggab
