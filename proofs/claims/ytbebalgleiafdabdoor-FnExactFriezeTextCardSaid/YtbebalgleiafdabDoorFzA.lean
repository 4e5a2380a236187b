/- The text of a frieze: all of it (one text, since a claim holds 60 files at most). -/
import Derived.Test.YtbebalgleiafdabDoorNumW
import Derived.Test.YtbebalgleiafdabDoorQofS
import Derived.Test.YtbebalgleiafdabDoorPosM
import Derived.Test.YtbebalgleiafdabDoorQofI
import Derived.Test.YtbebalgleiafdabDoorLawS2
import Derived.Test.YtbebalgleiafdabDoorCapS
import Derived.Test.YtbebalgleiafdabDoorItoW
import Derived.Test.YtbebalgleiafdabDoorJoinL
import Derived.Test.YtbebalgleiafdabDoorLawM
import Derived.Lib.Join
namespace Go.Proofs.YtbebalgleiafdabDoor
set_option linter.unusedVariables false
open Go.RowKit

theorem infoZ : (Tryd.prog.info? 9).map (fun i => (i.zero, i.size, i.bytes)) = some (some (.string ⟨#[]⟩), 1, 16) := by kernel_rfl
/- NumB -/
set_option maxRecDepth 100000 in
set_option maxHeartbeats 1600000 in
theorem spec_l1NumB : ∀ (n : Nat) (w : World), n ≤ 1000000000000 → Calls Tryd.prog 30 #[.int .i64 n] w fun e w' => e = .returned (.string (bsL (Lib.decDigits n))) ∧ Below w.heap.size w w' := by
  intro n
  induction n using Nat.strongRecOn with
  | _ n ih =>
    intro w hn
    by_cases h : n < 10
    · have h1 : (n : Int) < 10 := by omega
      have hw8 : IntKind.u8.wrap (48 + (n : Int)) = 48 + (n : Int) := by unfold IntKind.wrap; simp [IntKind.bits, IntKind.signed]; omega
      have hcv := run_byte (w := w.alloc (.cells #[.int .u8 (48 + (n : Int))] 5)) (g := w.heap.size) h (by simp [go_sem])
      have HE := Lib.hid (dig_small h)
      generalize UInt8.ofNat (48 + n) = y at *
      have HB := Lib.hid (below_one w (.cells #[.int .u8 (48 + (n : Int))] 5))
      clear ih
      go_enter Tryd.func30, Tryd.ntmps30
      go_wp2
      go_ret
      exact ⟨by rw [HE.out]; rfl, HB.out⟩
    · have h1 : ¬ (n : Int) < 10 := by omega
      have IH := Lib.hid (fun w => ih (n / 10) (by omega) w (by omega))
      have hq : (n : Int).tdiv 10 = ((n / 10 : Nat) : Int) := by rw [Int.tdiv_eq_ediv_of_nonneg (by omega)]; omega
      have hr : (n : Int).tmod 10 = ((n % 10 : Nat) : Int) := by rw [Int.tmod_eq_emod_of_nonneg (by omega)]; omega
      have hw8 : IntKind.u8.wrap (48 + ((n % 10 : Nat) : Int)) = 48 + ((n % 10 : Nat) : Int) := by unfold IntKind.wrap; simp [IntKind.bits, IntKind.signed]; omega
      have HD := Lib.hid (dig_big h)
      have hd9 : n % 10 < 10 := by omega
      clear ih
      have hwq : IntKind.i64.wrap ((n / 10 : Nat) : Int) = ((n / 10 : Nat) : Int) := IntWalk.i64_in _ (by omega)
      have hwr : IntKind.i64.wrap ((n % 10 : Nat) : Int) = ((n % 10 : Nat) : Int) := IntWalk.i64_in _ (by omega)
      have hw48 : IntKind.i64.wrap (48 + ((n % 10 : Nat) : Int)) = 48 + ((n % 10 : Nat) : Int) := IntWalk.i64_in _ (by omega)
      have hml := dig_len (n / 10)
      have hmn : n / 10 ≤ 1000000000000 := by omega
      have hcv3 := run_byte (w := (w.alloc (.cells #[.int .u8 (48 + ((n % 10 : Nat) : Int))] 5)).drew) (g := w.heap.size) hd9 (by simp [go_sem])
      have hcv := fun w' hc => run_byte (w := w') (g := w.heap.size) hd9 hc
      have hcv2 := fun (w1 : World) => run_byte (w := w1.alloc (.cells #[.int .u8 (48 + ((n % 10 : Nat) : Int))] 5)) (g := w1.heap.size) hd9 (by simp [go_sem])
      generalize UInt8.ofNat (48 + n % 10) = y at *
      generalize n % 10 = d at *
      generalize n / 10 = m at *
      generalize Lib.decDigits n = D at *
      generalize Lib.decDigits m = M at *
      go_enter Tryd.func30, Tryd.ntmps30
      go_upto_region 3 with fail
      have hsM := bsL_size M
      have hsy : (bsL [y]).size = 1 := bsL_size [y]
      have hsN : ¬ 9223372036854775807 < (bsL M).size + (bsL [y]).size := by omega
      have hsN2 : ¬ (bsL M).size + (bsL [y]).size > 9223372036854775807 := hsN
      clear hml hmn
      have Hcv := Lib.hid hcv
      have Hcv2 := Lib.hid hcv2
      clear hcv hcv2
      go_region_with (go_at_call 30; refine (IH.out _).mono ?_; rintro e1 w1 ⟨rfl, hb1⟩; (first
        | (have hk := Hcv.out w1 (byte_after hb1))
        | have hk := Hcv2.out w1))
      all_goals (
        first
          | (have HF := Lib.hid (bel_first hb1 (.cells #[.int .u8 (48 + (d : Int))] 5)); clear hb1 hk hcv3; go_wp2; go_ret; exact ⟨by rw [HD.out, bsL_app]; rfl, HF.out⟩)
          | (have HF := Lib.hid (bel_then hb1); clear hb1 hk hcv3; go_wp2; go_ret; exact ⟨by rw [HD.out, bsL_app]; rfl, HF.out⟩))

/- FzM -/
def numE (x : Int) : List UInt8 := Lib.decDigits x.toNat
/-- a row's text, k numbers of it -/
def rowT (r : List Int) (k : Nat) : List UInt8 := Lib.join ((r.take k).map numE) [44]
def fzT (Ls : List (List Int)) (k : Nat) : List UInt8 := Lib.join ((Ls.take k).map fun r => rowT r r.length) [47]
def fzR (Ls : List (List Int)) : List UInt8 := if friB Ls = true then fzT Ls Ls.length else []
theorem joinS (xs : List (List UInt8)) (y sep : List UInt8) : Lib.join (xs ++ [y]) sep = (if 0 < xs.length then Lib.join xs sep ++ sep else Lib.join xs sep) ++ y := by
  cases xs with
  | nil => simp [Lib.join_nil, Lib.join_one]
  | cons x r =>
    rw [List.cons_append, Lib.join_cons, Lib.join_cons]
    simp [Lib.joinTail]
theorem rowT_zero (r : List Int) : rowT r 0 = [] := by simp [rowT, Lib.join_nil]
theorem rowT_succ (r : List Int) (k : Nat) (h : k < r.length) : rowT r (k + 1) = (if 0 < k then rowT r k ++ [44] else rowT r k) ++ numE (r.getD k 0) := by
  unfold rowT
  have e : r[k] = r.getD k 0 := by simp [h]
  rw [List.take_succ_eq_append_getElem h, List.map_append, List.map_singleton, joinS, List.length_map, List.length_take, Nat.min_eq_left (by omega), e]
theorem fzT_zero (Ls : List (List Int)) : fzT Ls 0 = [] := by simp [fzT, Lib.join_nil]
theorem fzT_succ (Ls : List (List Int)) (k : Nat) (h : k < Ls.length) : fzT Ls (k + 1) = (if 0 < k then fzT Ls k ++ [47] else fzT Ls k) ++ rowT (rowOf Ls k) (rowOf Ls k).length := by
  unfold fzT
  have e : Ls[k] = rowOf Ls k := by simp [rowOf, h]
  rw [List.take_succ_eq_append_getElem h, List.map_append, List.map_singleton, joinS, List.length_map, List.length_take, Nat.min_eq_left (by omega), e]
/-- the rows of a frieze: few, short, of numbers not negative and small -/
def Sm11 (x : Int) : Prop := 0 ≤ x ∧ x ≤ 100000000000
theorem fri_rows {Ls : List (List Int)} (h : friB Ls = true) : (1 ≤ Ls.length ∧ Ls.length ≤ 9) ∧ ∀ j, j < Ls.length → (1 ≤ (rowOf Ls j).length ∧ (rowOf Ls j).length ≤ 12) ∧ ∀ k, k < (rowOf Ls j).length → Sm11 ((rowOf Ls j).getD k 0) := by
  unfold friB at h
  simp only [Bool.and_eq_true, decide_eq_true_eq] at h
  obtain ⟨⟨⟨h1, h2, h3, h4⟩, h5⟩, h6⟩ := h
  have hq := rotR_length (R := rowOf Ls 0) (by omega)
  refine ⟨by omega, fun j hj => ?_⟩
  unfold rowsB at h6
  rw [List.all_eq_true] at h6
  have h7 := h6 j (by simpa using hj)
  rw [decide_eq_true_eq] at h7
  rw [h7, rowL_length]
  refine ⟨by omega, fun k hk => ?_⟩
  have e : (rowL (rotR (rowOf Ls 0)) ((j : Int) + 1) (rotR (rowOf Ls 0)).length).getD k 0 = ent (rotR (rowOf Ls 0)) (k : Int) ((k : Int) + ((j : Int) + 1) + 1) := by
    unfold rowL
    simp [hk]
  rw [e]
  have := ent_bd h5 k (j + 1) hk (by omega)
  rw [show (k : Int) + (((j + 1 : Nat) : Int) + 1) = (k : Int) + ((j : Int) + 1) + 1 by omega] at this
  exact this
theorem numE_len {x : Int} (h : Sm11 x) : (numE x).length ≤ 100000000001 := by
  have := dig_len x.toNat
  unfold Sm11 at h
  unfold numE
  omega
theorem rowT_len {r : List Int} (h : ∀ k, k < r.length → Sm11 (r.getD k 0)) : ∀ k, k ≤ r.length → (rowT r k).length ≤ 100000000002 * k := by
  intro k
  induction k with
  | zero => intro _; rw [rowT_zero]; simp
  | succ k ih =>
    intro hk
    have h1 := ih (by omega)
    have h2 := numE_len (h k (by omega))
    rw [rowT_succ r k (by omega)]
    split <;> simp only [List.length_append, List.length_singleton] <;> omega
theorem fzT_len {Ls : List (List Int)} (h : friB Ls = true) : ∀ k, k ≤ Ls.length → (fzT Ls k).length ≤ 1200000000025 * k := by
  intro k
  induction k with
  | zero => intro _; rw [fzT_zero]; simp
  | succ k ih =>
    intro hk
    have h1 := ih (by omega)
    obtain ⟨h2, h3⟩ := (fri_rows h).2 k (by omega)
    have h4 := rowT_len h3 _ (Nat.le_refl _)
    rw [fzT_succ Ls k (by omega)]
    split <;> simp only [List.length_append, List.length_singleton] <;> omega
/-- a row of texts, k of them laid -/
def tsR (E : List (List UInt8)) (k n : Nat) : List Value := ((E.take k).map fun e => Value.string (bsL e)) ++ List.replicate (n - k) (.string ⟨#[]⟩)
theorem tsR_length (E : List (List UInt8)) (k n : Nat) (h : k ≤ E.length) (hn : k ≤ n) : (tsR E k n).length = n := by unfold tsR; simp; omega
theorem tsR_zero (E : List (List UInt8)) (n : Nat) : tsR E 0 n = List.replicate n (.string ⟨#[]⟩) := by simp [tsR]
theorem tsR_set (E : List (List UInt8)) (k n : Nat) (h : k < E.length) (hn : k < n) : (tsR E k n).set k (.string (bsL (E.getD k []))) = tsR E (k + 1) n := by
  unfold tsR
  rw [List.set_append_right _ _ (by simp; omega)]
  have e1 : k - ((E.take k).map fun e => Value.string (bsL e)).length = 0 := by simp; omega
  rw [e1, show n - k = (n - (k + 1)) + 1 by omega, List.replicate_succ, List.set_cons_zero, List.take_succ_eq_append_getElem h, List.map_append, List.map_singleton, List.append_assoc]
  simp [h]
theorem tsR_at (E : List (List UInt8)) (k n : Nat) (h : k < n) (hk : k ≤ E.length) : (tsR E k n)[k]? = some (.string ⟨#[]⟩) := by
  unfold tsR
  rw [List.getElem?_append_right (by simp; omega)]
  have e1 : k - ((E.take k).map fun e => Value.string (bsL e)).length = 0 := by simp; omega
  rw [e1, List.getElem?_replicate, if_pos (by omega)]
theorem tsR_cell {E : List (List UInt8)} {n j : Nat} {x : ByteArray} (hn : E.length = n) (h : (E.map bsL)[j]? = some x) : (tsR E n n)[j]? = some (.string x) := by
  unfold tsR
  rw [Nat.sub_self, List.replicate_zero, List.append_nil, ← hn, List.take_length, List.getElem?_map]
  rw [List.getElem?_map] at h
  cases hj : E[j]? with
  | none => rw [hj] at h; simp at h
  | some d => rw [hj] at h; simp at h ⊢; exact h
theorem joinE (E : List (List UInt8)) : (E.map bsL).map (·.data.toList) = E := by
  rw [List.map_map]
  have : ((fun x : ByteArray => x.data.toList) ∘ bsL) = id := by funext e; simp [bsL]
  rw [this, List.map_id]

/- FzI -/
theorem impl_ItoaN (n : Nat) (w : World) (hn : n ≤ 1000000000000) (ht : TabW w) :
    Calls Tryd.prog 27 #[.int .i64 n] w fun e w' => e = .returned (.string (bsL (Lib.decDigits n))) ∧ Below w.heap.size w w' := by
  refine Calls.mono (Any.strconv_Itoa itoaL (n : Int) (by omega) (by omega) w ht) ?_
  rintro e w' ⟨rfl, k, os, rfl⟩
  rw [Lib.itoa_nonneg]
  exact ⟨rfl, below_growN w k os⟩
theorem impl_JoinE {base : Nat} (bk n : Nat) (E : List (List UInt8)) (x : UInt8) (w : World) (hn : E.length = n) (ho : w.ownsRow base 9 1 (.slice (some ⟨bk, 0, none⟩) n n) n (tsR E n n)) (hbk : bk < w.heap.size) (hN : n ≤ 1000)
    (hlen : (Lib.join E [x]).length ≤ 140737488355328) :
    Calls Tryd.prog 34 #[.slice (some ⟨bk, 0, none⟩) n n, .string ⟨#[x]⟩] w fun e w' => e = .returned (.string (bsL (Lib.join E [x]))) ∧ Below w.heap.size w w' := by
  have h := Any.strings_Join joinL joinX bk 0 n (E.map bsL) ⟨#[x]⟩ w (fun j y hy => by
    have hj : j < n := by
      have := (List.getElem?_eq_some_iff.1 hy).1
      rw [List.length_map, hn] at this
      exact this
    have hl := tsR_length E n n (by rw [hn]; exact Nat.le_refl _) (Nat.le_refl _)
    rw [Nat.zero_add]
    exact (ho.cellAt j (by omega)).trans (tsR_cell hn hy)) hbk (by rw [List.length_map, hn]; omega) (by rw [List.length_map, hn]; exact Nat.le_refl _) (by rw [joinE]; exact hlen)
  rw [joinE, List.length_map, hn] at h
  exact h

set_option maxRecDepth 100000 in
set_option maxHeartbeats 3200000 in
theorem impl_listText (A : Option Addr) (c B n : Nat) (r : List Int) (w : World) (hn : r.length = n) (h : SlI w B A r) (hB : B ≤ w.heap.size) (h1 : 1 ≤ n) (h12 : n ≤ 12) (hs : ∀ k, k < r.length → Sm11 (r.getD k 0)) (ht : TabW w) :
    Calls Tryd.prog 33 #[.slice A n c] w fun e w' => e = .returned (.string (bsL (rowT r n))) ∧ Below w.heap.size w w' := by
  obtain ⟨i0', hii, hz0, hz1, hz2⟩ := info_parts infoZ
  have hbytes : i0'.bytes * n ≤ 281474976710656 := by rw [hz2]; omega
  have hmax : n ≤ maxLen := by unfold maxLen; omega
  have Hn := Lib.hid hn
  have HT := Lib.hid ht
  have Hs := Lib.hid hs
  have hE : ((r.map numE).length = n) := by rw [List.length_map, hn]
  have HE := Lib.hid hE
  clear hn ht hs hE
  go_enter Tryd.func33, Tryd.ntmps33
  go_wp2_with (first
    | (at_make; refine wpList_make_full _ rfl _ _ _ rfl w.heap.size 9 i0' (.string ⟨#[]⟩) 1 Tryd.underlying53 hii hz0 hz1 _ _ _ _ n rfl rfl rfl rfl hbytes hmax (Nat.le_refl _) ?_
       intro w3 hown3 hgrow3
       have b3 : Below w.heap.size w w3 := (Below.refl _ _).grown hgrow3 (Nat.le_refl _) (by simp)
       have e1 : (madeCells (Value.string ⟨#[]⟩).cells (n * 1)).toList = tsR (r.map numE) 0 n := (by
         rw [Nat.mul_one, tsR_zero]
         show (madeCells #[Value.string ⟨#[]⟩] n).toList = _
         rw [toList_madeCells_one])
       rw [e1] at hown3
       have O0 := Lib.hid hown3
       have B0 := Lib.hid b3
       clear e1 hgrow3 hown3 b3))
  clear hbytes hmax hii hz0 hz1 hz2
  go_loopw [4, 5, 11] (fun _ _ i wr => ∃ k : Nat, k ≤ n ∧ i = .int .i64 k ∧ wr.ownsRow w.heap.size 9 1 (.slice (some ⟨w.heap.size, 0, none⟩) n n) n (tsR (r.map numE) k n) ∧ Below w.heap.size w wr) (fun _ _ i _ => n - (intOf i).toNat)
  case atStart => exact ⟨0, Nat.zero_le _, rfl, O0.out, B0.out⟩
  case round =>
    clear O0 B0
    obtain ⟨k, hk, rfl, ho, hb⟩ := hrel
    by_cases hlt : k < n
    · obtain ⟨b, off, rfl, hbB, hc⟩ := h.below (hb.mono hB) (by rw [Hn.out]; omega)
      have g0 := hc k (by rw [Hn.out]; exact hlt)
      have i0 : (0 : Int) ≤ (k : Int) := by omega
      have i1 : (k : Int) < (n : Int) := by omega
      have hset := tsR_set (r.map numE) k n (by rw [HE.out]; exact hlt) hlt
      have hat := tsR_at (r.map numE) k n hlt (by rw [HE.out]; exact hk)
      have hsm := Hs.out k (by rw [Hn.out]; exact hlt)
      have hg : (r.map numE).getD k [] = numE (r.getD k 0) := by
        have : k < r.length := by rw [Hn.out]; exact hlt
        simp [this]
      rw [hg] at hset
      clear hc hg
      generalize r.getD k 0 = x at *
      unfold Sm11 at hsm
      obtain ⟨x, rfl⟩ := Int.eq_ofNat_of_zero_le hsm.1
      have hnum : numE (x : Int) = Lib.decDigits x := rfl
      rw [hnum] at hset
      have HI := Lib.hid (impl_ItoaN x wr (by omega) (tab_kept HT.out hb))
      have Hset := Lib.hid hset
      have Hat := Lib.hid hat
      have Ho := Lib.hid ho
      have Hb := Lib.hid hb
      clear hset hat ho hb hnum hsm
      go_wp2_with fail
      refine HI.out.mono ?_
      rintro e w4 ⟨rfl, hb4⟩
      have o4 := own_kept Ho.out hb4
      have B4 := Lib.hid (below_kept Hb.out (Nat.le_refl _) hb4)
      have hcell : _ = some (Value.string ⟨#[]⟩) := (o4.cellAt k (by omega)).trans Hat.out
      have hfro := o4.frozenAt k
      have hst := o4.stored k (.string (bsL (Lib.decDigits x)))
      rw [Hset.out] at hst
      have S4 := Lib.hid hst.1
      have D4 := Lib.hid (below_grown B4.out hst.2 (Nat.le_refl _) (fun j hj => by have h1 : w.heap.size = j := Option.some.inj hj; omega))
      clear hb4 o4 hst Ho Hb HI g0
      go_wp2
      go_roundw
      case rel => exact ⟨k + 1, by omega, by go_num, S4.out, D4.out⟩
      case measure => simp [intOf] <;> omega
    · obtain rfl : k = n := by omega
      have hgw : w.heap.size < wr.heap.size := (ho.lt _ rfl).2
      have hrt : rowT r k = Lib.join (r.map numE) [44] := by unfold rowT; rw [← Hn.out, List.take_length]
      have hrl := rowT_len Hs.out k (by rw [Hn.out]; exact Nat.le_refl _)
      have HJ := Lib.hid (impl_JoinE w.heap.size k (r.map numE) 44 wr HE.out ho hgw (by omega) (by rw [← hrt]; omega))
      rw [← hrt] at HJ
      have HB := Lib.hid hb
      clear ho hb hrt hrl h
      go_wp2_with fail
      refine HJ.out.mono ?_
      rintro e w2 ⟨rfl, hb2⟩
      have HB2 := Lib.hid (below_kept HB.out (Nat.le_refl _) hb2)
      clear HJ HB hb2
      go_wp2
      go_ret
      exact ⟨rfl, HB2.out⟩

/- FzJ -/
def FzE (Ls : List (List Int)) (w : World) (e : Ending) (w' : World) : Prop := e = .returned (.tuple #[.string (bsL (fzR Ls)), .bool (friB Ls)]) ∧ Below w.heap.size w w'
theorem fzE_no {Ls : List (List Int)} {w w' : World} (h : friB Ls = false) (hb : Below w.heap.size w w') : FzE Ls w (.returned (.tuple #[.string ⟨#[]⟩, .bool false])) w' := by
  unfold FzE fzR
  rw [h]
  exact ⟨rfl, hb⟩
theorem fzE_yes {Ls : List (List Int)} {w w' : World} (h : friB Ls = true) (hb : Below w.heap.size w w') : FzE Ls w (.returned (.tuple #[.string (bsL (fzT Ls Ls.length)), .bool true])) w' := by
  unfold FzE fzR
  rw [if_pos h, h]
  exact ⟨rfl, hb⟩
def rowsE (Ls : List (List Int)) : List (List UInt8) := Ls.map fun r => rowT r r.length

set_option maxRecDepth 100000 in
set_option maxHeartbeats 3200000 in
theorem impl_FriezeText (A : Option Addr) (c B N : Nat) (Ls : List (List Int)) (w : World) (hN : Ls.length = N) (h : SlSS w B A Ls) (hB : B ≤ w.heap.size) (hl : N ≤ 1048576) (hr : ∀ j, j < Ls.length → (rowOf Ls j).length ≤ 1048576) (ht : TabW w) :
    Calls Tryd.prog 13 #[.slice A N c] w (FzE Ls w) := by
  have HF := Lib.hid (impl_IsFrieze A c B N Ls w hN h hB hl hr)
  have HT := Lib.hid ht
  have H := Lib.hid h
  have Hn := Lib.hid hN
  clear h ht hN hr
  cases hg : friB Ls
  · have HE := Lib.hid (fun w' hb => fzE_no (w := w) (w' := w') hg hb)
    rw [hg] at HF
    clear hg
    go_enter Tryd.func13, Tryd.ntmps13
    go_wp2_with fail
    refine HF.out.mono ?_
    rintro e w1 ⟨rfl, hb⟩
    have HE2 := Lib.hid (HE.out _ hb)
    clear HE hb
    go_wp2
    go_ret2
    exact HE2.out
  · obtain ⟨⟨hn1, hn9⟩, hrows⟩ := fri_rows hg
    rw [Hn.out] at hn1 hn9
    have Hrows := Lib.hid hrows
    have Hg := Lib.hid hg
    rw [hg] at HF
    obtain ⟨i0', hii, hz0, hz1, hz2⟩ := info_parts infoZ
    have hbytes : i0'.bytes * N ≤ 281474976710656 := by rw [hz2]; omega
    have hmax : N ≤ maxLen := by unfold maxLen; omega
    have HE := Lib.hid (show (rowsE Ls).length = N by unfold rowsE; rw [List.length_map]; exact Hn.out)
    clear hg hrows
    go_enter Tryd.func13, Tryd.ntmps13
    go_wp2_with fail
    refine HF.out.mono ?_
    rintro e w1 ⟨rfl, hb1⟩
    have HB1 := Lib.hid hb1
    have z1 := hb1.size
    clear hb1 HF
    go_wp2_with (first
      | (at_make; refine wpList_make_full _ rfl _ _ _ rfl w1.heap.size 9 i0' (.string ⟨#[]⟩) 1 Tryd.underlying53 hii hz0 hz1 _ _ _ _ N rfl rfl rfl rfl hbytes hmax (Nat.le_refl _) ?_
         intro w3 hown3 hgrow3
         have b3 : Below w.heap.size w w3 := HB1.out.grown hgrow3 z1 (by simp)
         have e1 : (madeCells (Value.string ⟨#[]⟩).cells (N * 1)).toList = tsR (rowsE Ls) 0 N := (by
           rw [Nat.mul_one, tsR_zero]
           show (madeCells #[Value.string ⟨#[]⟩] N).toList = _
           rw [toList_madeCells_one])
         rw [e1] at hown3
         have O0 := Lib.hid hown3
         have B0 := Lib.hid b3
         clear e1 hgrow3 hown3 b3))
    clear hbytes hmax hii hz0 hz1 hz2
    go_loopw [5, 6, 15] (fun _ _ i wr => ∃ k : Nat, k ≤ N ∧ i = .int .i64 k ∧ wr.ownsRow w1.heap.size 9 1 (.slice (some ⟨w1.heap.size, 0, none⟩) N N) N (tsR (rowsE Ls) k N) ∧ Below w.heap.size w wr) (fun _ _ i _ => N - (intOf i).toNat)
    case atStart => exact ⟨0, Nat.zero_le _, rfl, O0.out, B0.out⟩
    case round =>
      clear O0 B0
      obtain ⟨k, hk, rfl, ho, hb⟩ := hrel
      by_cases hlt : k < N
      · obtain ⟨b, off, rfl, hbB, hc⟩ := (H.out.below (hb.mono hB)) (by rw [Hn.out]; omega)
        obtain ⟨Aj, cj, g0, hsj⟩ := hc k (by rw [Hn.out]; exact hlt)
        have i0 : (0 : Int) ≤ (k : Int) := by omega
        have i1 : (k : Int) < (N : Int) := by omega
        have hset := tsR_set (rowsE Ls) k N (by rw [HE.out]; exact hlt) hlt
        have hat := tsR_at (rowsE Ls) k N hlt (by rw [HE.out]; exact hk)
        obtain ⟨⟨r1, r12⟩, hsm⟩ := Hrows.out k (by rw [Hn.out]; exact hlt)
        have hgd : (rowsE Ls).getD k [] = rowT (rowOf Ls k) (rowOf Ls k).length := by
          have : k < Ls.length := by rw [Hn.out]; exact hlt
          simp [rowsE, rowOf, this]
        rw [hgd] at hset
        have HL := Lib.hid (impl_listText Aj cj B (rowOf Ls k).length (rowOf Ls k) wr rfl hsj (Nat.le_trans hB hb.size) r1 r12 hsm (tab_kept HT.out hb))
        have Hset := Lib.hid hset
        have Hat := Lib.hid hat
        have Ho := Lib.hid ho
        have Hb := Lib.hid hb
        clear hset hat ho hb hsm hc hsj hgd r1 r12
        generalize rowT (rowOf Ls k) (rowOf Ls k).length = T at *
        generalize (rowOf Ls k).length = m at *
        go_wp2_with fail
        refine HL.out.mono ?_
        rintro e w4 ⟨rfl, hb4⟩
        have o4 := own_kept Ho.out hb4
        have B4 := Lib.hid (below_kept Hb.out (Nat.le_refl _) hb4)
        have hcell : _ = some (Value.string ⟨#[]⟩) := (o4.cellAt k (by omega)).trans Hat.out
        have hfro := o4.frozenAt k
        have hst := o4.stored k (.string (bsL T))
        rw [Hset.out] at hst
        have S4 := Lib.hid hst.1
        have D4 := Lib.hid (below_grown B4.out hst.2 (Nat.le_refl _) (fun j hj => by have h1 : w1.heap.size = j := Option.some.inj hj; omega))
        clear hb4 o4 hst Ho Hb HL g0
        go_wp2
        go_roundw
        case rel => exact ⟨k + 1, by omega, by go_num, S4.out, D4.out⟩
        case measure => simp [intOf] <;> omega
      · obtain rfl : k = N := by omega
        have hgw : w1.heap.size < wr.heap.size := (ho.lt _ rfl).2
        have hft : fzT Ls k = Lib.join (rowsE Ls) [47] := by unfold fzT rowsE; rw [← Hn.out, List.take_length]
        have hfl := fzT_len Hg.out k (by rw [Hn.out]; exact Nat.le_refl _)
        have HJ := Lib.hid (impl_JoinE w1.heap.size k (rowsE Ls) 47 wr HE.out ho hgw (by omega) (by rw [← hft]; omega))
        rw [← hft] at HJ
        have HY := Lib.hid (fun w' hb => fzE_yes (w := w) (w' := w') Hg.out hb)
        rw [Hn.out] at HY
        have HB := Lib.hid hb
        clear ho hb hft hfl
        go_wp2_with fail
        refine HJ.out.mono ?_
        rintro e w2 ⟨rfl, hb2⟩
        have HB2 := Lib.hid (HY.out _ (below_kept HB.out (Nat.le_refl _) hb2))
        clear HJ HB hb2 HY
        go_wp2
        go_ret2
        exact HB2.out

/- FzS -/
set_option maxRecDepth 100000 in
set_option maxHeartbeats 3200000 in
theorem spec_FriezeText (A : Option Addr) (c B N : Nat) (Ls : List (List Int)) (w : World) (hN : Ls.length = N) (h : SlSS w B A Ls) (hcap : CapSS w A N) (hB : B ≤ w.heap.size) (hl : N ≤ 1048576) (hr : ∀ j, j < Ls.length → (rowOf Ls j).length ≤ 1048576) :
    Calls Tryd.prog 11 #[.slice A N c] w (FzE Ls w) := by
  have HF := Lib.hid (spec_frRead A c B N Ls w hN h hcap hB hl hr)
  have H := Lib.hid h
  have Hn := Lib.hid hN
  clear h hN hr hcap
  unfold RetI at HF
  generalize hqq : friQ Ls = Q at *
  cases hg : friB Ls
  · have HE := Lib.hid (fun w' hb => fzE_no (w := w) (w' := w') hg hb)
    rw [hg] at HF
    clear hg
    go_enter Tryd.func11, Tryd.ntmps11
    go_wp2_with fail
    refine HF.out.mono ?_
    rintro e w1 ⟨A1, c1, rfl, _, hb⟩
    have HE2 := Lib.hid (HE.out _ hb)
    clear HE hb
    generalize Q.length = q at *
    go_wp2
    go_ret2
    exact HE2.out
  · obtain ⟨⟨hn1, hn9⟩, hrows⟩ := fri_rows hg
    rw [Hn.out] at hn1 hn9
    have Hrows := Lib.hid hrows
    have Hg := Lib.hid hg
    rw [hg] at HF
    clear hg hrows
    go_enter Tryd.func11, Tryd.ntmps11
    go_wp2_with fail
    refine HF.out.mono ?_
    rintro e w1 ⟨A1, c1, rfl, _, hb1⟩
    have HB1 := Lib.hid hb1
    clear hb1 HF
    generalize Q.length = q at *
    go_wp2
    go_loopw [6, 7, 8, 9, 10, 20] (fun s _ _ _ _ i wr => ∃ k : Nat, k ≤ N ∧ i = .int .i64 k ∧ s = .string (bsL (fzT Ls k)) ∧ Below w.heap.size w wr) (fun _ _ _ _ _ i _ => N - (intOf i).toNat)
    case atStart => exact ⟨0, Nat.zero_le _, rfl, by rw [fzT_zero]; rfl, HB1.out⟩
    case round =>
      clear HB1
      obtain ⟨k, hk, rfl, rfl, hb⟩ := hrel
      by_cases hlt : k < N
      · obtain ⟨b, off, rfl, hbB, hc⟩ := (H.out.below (hb.mono hB)) (by rw [Hn.out]; omega)
        obtain ⟨Aj, cj, g0, hsj⟩ := hc k (by rw [Hn.out]; exact hlt)
        have i0 : (0 : Int) ≤ (k : Int) := by omega
        have i1 : (k : Int) < (N : Int) := by omega
        obtain ⟨⟨r1, r12⟩, hsm⟩ := Hrows.out k (by rw [Hn.out]; exact hlt)
        have hsu := fzT_succ Ls k (by rw [Hn.out]; exact hlt)
        have hfl := fzT_len Hg.out k (by rw [Hn.out]; exact hk)
        obtain ⟨P, hP⟩ : ∃ P, P = if 0 < k then fzT Ls k ++ [47] else fzT Ls k := ⟨_, rfl⟩
        rw [← hP] at hsu
        have hPl : P.length ≤ 20000000000000 := by rw [hP]; split <;> (try simp only [List.length_append, List.length_singleton]) <;> omega
        have hPb : bsL P = if 0 < k then bsL (fzT Ls k) ++ ⟨#[47]⟩ else bsL (fzT Ls k) := by
          rw [hP]
          split
          · exact bsL_snoc _ _
          · rfl
        have sF := bsL_size (fzT Ls k)
        have q1 : ¬ 9223372036854775807 < (fzT Ls k).length + 1 := by omega
        have Hrl := Lib.hid (rowT_len hsm)
        have Hsm := Lib.hid hsm
        have Hsu := Lib.hid hsu
        have Hb := Lib.hid hb
        have Hsj := Lib.hid hsj
        have hsz := hb.size
        clear hsu hb hc hsj hsm hP hfl
        generalize fzT Ls k = F at *
        obtain ⟨m, hm⟩ : ∃ m, (rowOf Ls k).length = m := ⟨_, rfl⟩
        rw [hm] at g0 r1 r12 Hrl Hsm Hsu
        have Hm := Lib.hid hm
        clear hm
        obtain ⟨wz, hwz⟩ : ∃ wz, wz = wr := ⟨_, rfl⟩
        by_cases k0 : 0 < k
        · have k1 : (0 : Int) < (k : Int) := by omega
          rw [if_pos k0] at hPb
          go_wp2
          rw [← hPb]
          clear hPb
          go_loopw [6, 9, 10, 31] (fun s _ _ i wq => ∃ t : Nat, t ≤ m ∧ i = .int .i64 t ∧ s = .string (bsL (P ++ rowT (rowOf Ls k) t)) ∧ Below wr.heap.size wr wq) (fun _ _ _ i _ => m - (intOf i).toNat)
          case atStart => exact ⟨0, Nat.zero_le _, rfl, by rw [rowT_zero, List.append_nil], Below.refl _ _⟩
          case round =>
            obtain ⟨t, ht, rfl, rfl, hbq⟩ := hrel
            by_cases htm : t < m
            · obtain ⟨b2, off2, rfl, hb2B, hc2⟩ := (Hsj.out.below (hbq.mono (Nat.le_trans hB hsz))) (by rw [Hm.out]; omega)
              have x0 := hc2 t (by rw [Hm.out]; exact htm)
              have hx := Hsm.out t htm
              have hts := rowT_succ (rowOf Ls k) t (by rw [Hm.out]; exact htm)
              have htl := Hrl.out t ht
              have j0 : (0 : Int) ≤ (t : Int) := by omega
              have j1 : (t : Int) < (m : Int) := by omega
              clear hc2
              generalize (rowOf Ls k).getD t 0 = x at *
              unfold Sm11 at hx
              obtain ⟨x, rfl⟩ := Int.eq_ofNat_of_zero_le hx.1
              have hnum : numE (x : Int) = Lib.decDigits x := rfl
              have hnl := dig_len x
              rw [hnum] at hts
              obtain ⟨T, hT⟩ : ∃ T, T = P ++ rowT (rowOf Ls k) t := ⟨_, rfl⟩
              rw [← hT]
              have hTl : T.length ≤ 30000000000000 := by rw [hT, List.length_append]; omega
              have sT := bsL_size T
              have sX := bsL_size (Lib.decDigits x)
              have u1 : ¬ 9223372036854775807 < T.length + 1 := by omega
              have u2 : ¬ 9223372036854775807 < T.length + 1 + (Lib.decDigits x).length := by omega
              have u3 : ¬ 9223372036854775807 < T.length + (Lib.decDigits x).length := by omega
              have hts2 : P ++ rowT (rowOf Ls k) (t + 1) = (if 0 < t then T ++ [44] else T) ++ Lib.decDigits x := by
                rw [hts, hT]
                split <;> simp [List.append_assoc]
              have HI := Lib.hid (fun w => spec_l1NumB x w (by omega))
              have Hq := Lib.hid hbq
              have Ht2 := Lib.hid hts2
              clear hts hts2 htl hnl hTl hT hnum hx hbq
              generalize Lib.decDigits x = X at *
              by_cases t0 : 0 < t
              · have t1 : (0 : Int) < (t : Int) := by omega
                rw [if_pos t0] at Ht2
                go_wp2_with fail
                refine (HI.out _).mono ?_
                rintro e w4 ⟨rfl, hb4⟩
                have H4 := Lib.hid (below_kept Hq.out (Nat.le_refl _) hb4)
                clear hb4 x0 HI
                go_wp2
                go_roundw
                case rel => exact ⟨t + 1, by omega, by go_num, by rw [Ht2.out, bsL_app, bsL_snoc], H4.out⟩
                case measure => simp [intOf] <;> omega
              · have t1 : ¬ (0 : Int) < (t : Int) := by omega
                rw [if_neg t0] at Ht2
                go_wp2_with fail
                refine (HI.out _).mono ?_
                rintro e w4 ⟨rfl, hb4⟩
                have H4 := Lib.hid (below_kept Hq.out (Nat.le_refl _) hb4)
                clear hb4 x0 HI
                go_wp2
                go_roundw
                case rel => exact ⟨t + 1, by omega, by go_num, by rw [Ht2.out, bsL_app], H4.out⟩
                case measure => simp [intOf] <;> omega
            · obtain rfl : t = m := by omega
              have HO := Lib.hid (below_kept Hb.out (Nat.le_refl _) hbq)
              clear hbq g0
              go_wp2
              go_roundw
              case rel => exact ⟨k + 1, by omega, by go_num, by rw [Hsu.out], HO.out⟩
              case measure => simp [intOf] <;> omega
        · have k1 : ¬ (0 : Int) < (k : Int) := by omega
          rw [if_neg k0] at hPb
          go_wp2
          rw [← hPb]
          clear hPb
          go_loopw [6, 9, 10, 31] (fun s _ _ i wq => ∃ t : Nat, t ≤ m ∧ i = .int .i64 t ∧ s = .string (bsL (P ++ rowT (rowOf Ls k) t)) ∧ Below wr.heap.size wr wq) (fun _ _ _ i _ => m - (intOf i).toNat)
          case atStart => exact ⟨0, Nat.zero_le _, rfl, by rw [rowT_zero, List.append_nil], Below.refl _ _⟩
          case round =>
            obtain ⟨t, ht, rfl, rfl, hbq⟩ := hrel
            by_cases htm : t < m
            · obtain ⟨b2, off2, rfl, hb2B, hc2⟩ := (Hsj.out.below (hbq.mono (Nat.le_trans hB hsz))) (by rw [Hm.out]; omega)
              have x0 := hc2 t (by rw [Hm.out]; exact htm)
              have hx := Hsm.out t htm
              have hts := rowT_succ (rowOf Ls k) t (by rw [Hm.out]; exact htm)
              have htl := Hrl.out t ht
              have j0 : (0 : Int) ≤ (t : Int) := by omega
              have j1 : (t : Int) < (m : Int) := by omega
              clear hc2
              generalize (rowOf Ls k).getD t 0 = x at *
              unfold Sm11 at hx
              obtain ⟨x, rfl⟩ := Int.eq_ofNat_of_zero_le hx.1
              have hnum : numE (x : Int) = Lib.decDigits x := rfl
              have hnl := dig_len x
              rw [hnum] at hts
              obtain ⟨T, hT⟩ : ∃ T, T = P ++ rowT (rowOf Ls k) t := ⟨_, rfl⟩
              rw [← hT]
              have hTl : T.length ≤ 30000000000000 := by rw [hT, List.length_append]; omega
              have sT := bsL_size T
              have sX := bsL_size (Lib.decDigits x)
              have u1 : ¬ 9223372036854775807 < T.length + 1 := by omega
              have u2 : ¬ 9223372036854775807 < T.length + 1 + (Lib.decDigits x).length := by omega
              have u3 : ¬ 9223372036854775807 < T.length + (Lib.decDigits x).length := by omega
              have hts2 : P ++ rowT (rowOf Ls k) (t + 1) = (if 0 < t then T ++ [44] else T) ++ Lib.decDigits x := by
                rw [hts, hT]
                split <;> simp [List.append_assoc]
              have HI := Lib.hid (fun w => spec_l1NumB x w (by omega))
              have Hq := Lib.hid hbq
              have Ht2 := Lib.hid hts2
              clear hts hts2 htl hnl hTl hT hnum hx hbq
              generalize Lib.decDigits x = X at *
              by_cases t0 : 0 < t
              · have t1 : (0 : Int) < (t : Int) := by omega
                rw [if_pos t0] at Ht2
                go_wp2_with fail
                refine (HI.out _).mono ?_
                rintro e w4 ⟨rfl, hb4⟩
                have H4 := Lib.hid (below_kept Hq.out (Nat.le_refl _) hb4)
                clear hb4 x0 HI
                go_wp2
                go_roundw
                case rel => exact ⟨t + 1, by omega, by go_num, by rw [Ht2.out, bsL_app, bsL_snoc], H4.out⟩
                case measure => simp [intOf] <;> omega
              · have t1 : ¬ (0 : Int) < (t : Int) := by omega
                rw [if_neg t0] at Ht2
                go_wp2_with fail
                refine (HI.out _).mono ?_
                rintro e w4 ⟨rfl, hb4⟩
                have H4 := Lib.hid (below_kept Hq.out (Nat.le_refl _) hb4)
                clear hb4 x0 HI
                go_wp2
                go_roundw
                case rel => exact ⟨t + 1, by omega, by go_num, by rw [Ht2.out, bsL_app], H4.out⟩
                case measure => simp [intOf] <;> omega
            · obtain rfl : t = m := by omega
              have HO := Lib.hid (below_kept Hb.out (Nat.le_refl _) hbq)
              clear hbq g0
              go_wp2
              go_roundw
              case rel => exact ⟨k + 1, by omega, by go_num, by rw [Hsu.out], HO.out⟩
              case measure => simp [intOf] <;> omega
      · obtain rfl : k = N := by omega
        have HY := Lib.hid (fzE_yes (w := w) (w' := wr) Hg.out hb)
        rw [Hn.out] at HY
        clear hb
        go_wp2
        go_ret2
        exact HY.out

/- FzW -/
set_option maxRecDepth 100000 in
set_option maxHeartbeats 3200000 in
theorem WFriezeText.core (w : World) (A : Option Addr) (c n : Nat) (Ls : List (List Int)) (hn : Ls.length = n) (h : SlSS w w.heap.size A Ls) (hm : n ≤ c) (hx : c ≤ maxLen) (hr : ∀ j, j < Ls.length → (rowOf Ls j).length ≤ maxLen)
    (ht : TabW w) (r0 : ByteArray) (ok : Bool) (hs : Hid (∀ (A : Option Addr) (c : Nat) (w : World), SlSS w w.heap.size A Ls → CapSS w A n → n ≤ 1048576 → (∀ j, j < Ls.length → (rowOf Ls j).length ≤ 1048576) → Calls Tryd.prog 11 #[.slice A n c] w (fun e w' => e = .returned (.tuple #[.string r0, .bool ok]) ∧ Below w.heap.size w w')))
    (hi : Hid (∀ (A : Option Addr) (c : Nat) (w : World), TabW w → SlSS w w.heap.size A Ls → CapSS w A n → n ≤ 1048576 → (∀ j, j < Ls.length → (rowOf Ls j).length ≤ 1048576) → Calls Tryd.prog 13 #[.slice A n c] w (fun e w' => e = .returned (.tuple #[.string r0, .bool ok]) ∧ Below w.heap.size w w'))) :
    Calls Tryd.prog 4 #[.slice A n c] w fun e w' => e = .returned (.bool true) ∧ Below w.heap.size w w' := by
  have HT := Lib.hid ht
  clear ht
  have Hz := Lib.hid (laws_szIntSS A c w.heap.size n Ls w hn h (by omega) hr)
  have H := Lib.hid h
  have Hn := Lib.hid hn
  have hd := Below.refl w.heap.size w
  clear h hn
  go_enter Tryd.func4, Tryd.ntmps4
  go_wp2_with fail
  refine Hz.out.mono ?_
  rintro e wz ⟨r, rfl, rfl, hsz⟩
  clear Hz
  by_cases hr0 : r < 0
  · clear hs hi hsz
    go_wp2
    go_ret
    exact ⟨rfl, hd⟩
  · obtain ⟨_, hl, hp⟩ := hsz.resolve_left hr0
    rw [Hn.out] at hl
    have hrow : ∀ j, j < Ls.length → (rowOf Ls j).length ≤ 1048576 := fun j hj => by
      have h1 := pre_succ Ls j hj
      have h2 := pre_le Ls (j + 1) (Ls.length - (j + 1)) (by omega)
      rw [show j + 1 + (Ls.length - (j + 1)) = Ls.length by omega] at h2
      omega
    have Hp := Lib.hid hp
    have Hrow := Lib.hid hrow
    clear hp hrow hsz hr
    go_wp2_with fail
    refine (laws_toIntSS A c w.heap.size n Ls _ Hn.out (H.out.below hd) hd.size hl Hrow.out).mono ?_
    rintro e whT ⟨rshT, rfl, hT, hb⟩
    replace hd := below_kept hd (Nat.le_refl _) hb
    clear hb
    go_wp2_with fail
    refine (hs.out _ _ _ hT.sl (hT.cap Hn.out) hl Hrow.out).mono ?_
    rintro e whW ⟨rfl, hb⟩
    replace hd := below_kept hd (Nat.le_refl _) hb
    clear hb
    clear hT hs
    go_wp2_with fail
    have hx0 := hd.size
    refine (laws_toIntSS A c w.heap.size n Ls _ Hn.out (H.out.below hd) hd.size hl Hrow.out).mono ?_
    rintro e whX ⟨rshX, rfl, hX, hb⟩
    have HbX := Lib.hid hb.size
    replace hd := below_kept hd (Nat.le_refl _) hb
    clear hb
    go_wp2_with fail
    refine (hi.out _ _ _ (tab_kept HT.out hd) hX.sl (hX.cap Hn.out) hl Hrow.out).mono ?_
    rintro e whG ⟨rfl, hb⟩
    replace hX := hX.kept hb
    replace hd := below_kept hd (Nat.le_refl _) hb
    clear hb
    go_wp2_with fail
    refine (laws_toIntSS A c w.heap.size n Ls _ Hn.out (H.out.below hd) hd.size hl Hrow.out).mono ?_
    rintro e whY ⟨rshY, rfl, hY, hb⟩
    replace hX := hX.kept hb
    replace hd := below_kept hd (Nat.le_refl _) hb
    clear hb
    go_wp2_with fail
    have SX := hX.sl
    have SY := hY.sl
    refine (laws_eqIntSS_n _ _ _ _ _ _ n Ls _ Hn.out SX SY hl Hrow.out).mono ?_
    rintro e wqx ⟨rfl, hb⟩
    replace hX := hX.kept hb
    replace hd := below_kept hd (Nat.le_refl _) hb
    clear hb
    clear SX SY hY
    go_wp2_with fail
    clear hX hi
    go_wp2
    go_ret
    exact ⟨rfl, hd⟩

theorem WFriezeText.walk (w : World) (A : Option Addr) (c : Nat) (Ls : List (List Int)) (ht : TabW w) (h : SlSS w w.heap.size A Ls) (hj : Ls.length ≤ c ∧ c ≤ maxLen ∧ ∀ j, j < Ls.length → (rowOf Ls j).length ≤ maxLen) :
    Calls Tryd.prog 4 #[.slice A Ls.length c] w fun e w' => e = .returned (.bool true) ∧ Below w.heap.size w w' :=
  WFriezeText.core w A c Ls.length Ls rfl h hj.1 hj.2.1 hj.2.2 ht (bsL (fzR Ls)) (friB Ls)
    (Lib.hid fun A c w h hc hl hr => spec_FriezeText A c _ _ Ls w rfl h hc (Nat.le_refl _) hl hr)
    (Lib.hid fun A c w ht h _ hl hr => impl_FriezeText A c _ _ Ls w rfl h (Nat.le_refl _) hl hr ht)
end Go.Proofs.YtbebalgleiafdabDoor
