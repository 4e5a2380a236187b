/- PuzzleText: the model's and the program's contracts, and the law's walk. -/
import Derived.Test.YtnoddecligmjbaaPzB
import Derived.Test.YtnoddecligmjbaaNumW
import Derived.Test.YtnoddecligmjbaaPuzzleTextC
namespace Go.Proofs.Ytnoddecligmjbaa
set_option linter.unusedVariables false
open Go.RowKit

/-- a number's sign; a puzzle's text -/
def pzc (x : Int) : UInt8 := if x = 0 then 46 else UInt8.ofNat (48 + x.toNat)
def txP (l : List Int) : List UInt8 := l.map pzc
theorem txP_length (l : List Int) : (txP l).length = l.length := by simp [txP]
theorem txP_take (l : List Int) (k : Nat) (h : k < l.length) : txP (l.take (k + 1)) = txP (l.take k) ++ [pzc (l.getD k 0)] := by
  unfold txP
  rw [List.take_succ_eq_append_getElem h, List.map_append]
  simp [h]
def tpxR (l : List Int) : ByteArray := if pzB l = true then bsL (txP l) else ⟨#[]⟩
def TpxE (l : List Int) (w : World) (e : Ending) (w' : World) : Prop := e = .returned (.tuple #[.string (tpxR l), .bool (pzB l)]) ∧ Below w.heap.size w w'
theorem tpxE_no {l : List Int} {w w' : World} (h : pzB l = false) (hb : Below w.heap.size w w') : TpxE l w (.returned (.tuple #[.string ⟨#[]⟩, .bool false])) w' := by
  unfold TpxE tpxR
  rw [h]
  exact ⟨rfl, hb⟩
theorem tpxE_yes {l : List Int} {w w' : World} (h : pzB l = true) (hb : Below w.heap.size w w') : TpxE l w (.returned (.tuple #[.string (bsL (txP l)), .bool true])) w' := by
  unfold TpxE tpxR
  rw [h]
  exact ⟨rfl, hb⟩

set_option maxRecDepth 100000 in
set_option maxHeartbeats 3200000 in
theorem spec_PuzzleText (A : Option Addr) (c B : Nat) (l : List Int) (w : World) (h : SlI w B A l) (hB : B ≤ w.heap.size) (hl : l.length ≤ 1048576) :
    Calls Try.prog 36 #[.agg #[.slice A l.length c]] w (TpxE l w) := by
  have hd := below_box (Below.refl w.heap.size w) (Nat.le_refl _) (.cells #[.slice A l.length c] 27)
  have Q := Lib.hid (Bo.new w (.slice A l.length c) 27)
  have hs := h.below (hd.mono hB)
  clear h
  go_enter Try.func36, Try.ntmps36
  go_wp2_with fail
  refine (spec_pzGood A _ c B l _ rfl hs (Nat.le_trans hB hd.size) hl).mono ?_
  rintro e w1 ⟨rfl, hb⟩
  replace Q := Lib.hid (Q.out.kept hb)
  replace hs := hs.below (hb.mono (Nat.le_trans hB hd.size))
  replace hd := below_kept hd (Nat.le_refl _) hb
  clear hb
  cases hp : pzB l
  · have HE := Lib.hid (tpxE_no hp hd)
    clear hp hd hs Q
    go_wp2
    go_ret2
    exact HE.out
  · have HE := Lib.hid fun (w' : World) (hb : Below w1.heap.size w1 w') => tpxE_yes hp (below_kept hd (Nat.le_refl _) hb)
    obtain ⟨h3, h9⟩ := pzB_len hp
    have HG := Lib.hid (pzB_get hp)
    have cq := Q.out.cell
    have hB1 := Nat.le_trans hB hd.size
    clear hp hd
    go_wp2
    go_loopw [4, 6, 13] (fun s _ i wr => ∃ k : Nat, k ≤ l.length ∧ i = .int .i64 k ∧ s = .string (bsL (txP (l.take k))) ∧ Below w1.heap.size w1 wr) (fun _ _ i _ => l.length - (intOf i).toNat)
    case atStart => exact ⟨0, Nat.zero_le _, rfl, rfl, Below.refl _ _⟩
    case round =>
      obtain ⟨k, hk, rfl, rfl, hb⟩ := hrel
      by_cases hlt : k < l.length
      · obtain ⟨b, off, rfl, hbB, hc⟩ := (hs.below (hb.mono hB1)) (by omega)
        have g := hc k hlt
        have i0 : (0 : Int) ≤ (k : Int) := by omega
        have i1 : (k : Int) < (l.length : Int) := by omega
        obtain ⟨x0, x1⟩ := HG.out k hlt
        have Ht := Lib.hid (txP_take l k hlt)
        have hsz : (bsL (txP (l.take k))).size = k := by rw [bsL_size, txP_length]; simp; omega
        by_cases hx : l.getD k 0 = 0
        · have Hx : Hid (bsL (txP (l.take (k + 1))) = bsL (txP (l.take k)) ++ ⟨#[46]⟩) := Lib.hid (by rw [Ht.out, hx, bsL_app]; rfl)
          rw [hx] at g
          clear hx hc hs cq HE HG x0 x1
          generalize bsL (txP (l.take k)) = T at *
          have hsN : ¬ 9223372036854775807 < T.size + 1 := by omega
          go_wp2
          go_roundw
          case rel => exact ⟨k + 1, by omega, by go_num, by rw [Hx.out], hb⟩
          case measure => simp [intOf]; omega
        · obtain ⟨m, hm⟩ := Int.eq_ofNat_of_zero_le x0
          have hm10 : m < 10 := by omega
          have hm0 : ((m : Int) == 0) = false := by rw [hm] at hx; simpa using hx
          have Hx : Hid (bsL (txP (l.take (k + 1))) = bsL (txP (l.take k)) ++ bsL (Lib.decDigits m)) := Lib.hid (by rw [Ht.out, hm, bsL_app, dig_small hm10]; unfold pzc; rw [if_neg (by rw [hm] at hx; exact hx)]; simp)
          have hs1 : (bsL (Lib.decDigits m)).size = 1 := by rw [dig_small hm10]; exact bsL_size _
          have HN := Lib.hid fun w => spec_l1Num m w (by omega)
          rw [hm] at g
          clear hx hc hs cq HE HG x0 x1 hm
          generalize bsL (txP (l.take k)) = T at *
          generalize bsL (Lib.decDigits m) = D at *
          have hsN : ¬ 9223372036854775807 < T.size + D.size := by omega
          go_wp2_with fail
          refine (HN.out _).mono ?_
          rintro e w2 ⟨rfl, hb2⟩
          have hb3 := below_kept hb (Nat.le_refl _) hb2
          clear hb hb2 g
          go_wp2
          go_roundw
          case rel => exact ⟨k + 1, by omega, by go_num, by rw [Hx.out], hb3⟩
          case measure => simp [intOf]; omega
      · obtain rfl : k = l.length := by omega
        have HF := Lib.hid (HE.out _ hb)
        rw [List.take_length]
        clear hs cq HE hb
        generalize bsL (txP l) = T at *
        go_wp2
        go_ret2
        exact HF.out

/-- behind k signs -/
def signU (l : List Int) (k : Nat) : List UInt8 := txP (l.take k) ++ List.replicate (l.length - k) 0
theorem signU_length (l : List Int) (k : Nat) (h : k ≤ l.length) : (signU l k).length = l.length := by simp [signU, txP_length]; omega
theorem signU_zero (l : List Int) : signU l 0 = List.replicate l.length 0 := by simp [signU, txP]
theorem signU_all (l : List Int) : signU l l.length = txP l := by simp [signU]
theorem signU_succ (l : List Int) (k : Nat) (h : k < l.length) : (signU l k).set k (pzc (l.getD k 0)) = signU l (k + 1) := by
  unfold signU
  have hk : (txP (l.take k)).length = k := by simp [txP_length]; omega
  rw [List.set_append_right _ _ (by omega), hk, Nat.sub_self, show l.length - k = (l.length - (k + 1)) + 1 by omega, List.replicate_succ, List.set_cons_zero, txP_take l k h, List.append_assoc]
  rfl
theorem ubs_set (L : List UInt8) (j : Nat) (y : UInt8) : (ubs L).set j (.int .u8 (y.toNat : Int)) = ubs (L.set j y) := by simp [ubs, List.map_set]
theorem ubs_get (L : List UInt8) (j : Nat) (h : j < L.length) : (ubs L)[j]? = some (.int .u8 ((L.getD j 0).toNat : Int)) := by simp [ubs, h]

set_option maxRecDepth 100000 in
set_option maxHeartbeats 6400000 in
theorem impl_PuzzleText (A : Option Addr) (c B : Nat) (l : List Int) (w : World) (h : SlI w B A l) (hB : B ≤ w.heap.size) (hl : l.length ≤ 1048576) :
    Calls Try.prog 37 #[.agg #[.slice A l.length c]] w (TpxE l w) := by
  have hd := below_box (Below.refl w.heap.size w) (Nat.le_refl _) (.cells #[.slice A l.length c] 27)
  have Q := Lib.hid (Bo.new w (.slice A l.length c) 27)
  have hs := h.below (hd.mono hB)
  clear h
  obtain ⟨i0, hi, hz0, hz1, hz2⟩ := info_parts infoU
  have hbytes : i0.bytes * l.length ≤ 281474976710656 := by rw [hz2]; omega
  have hmax : l.length ≤ maxLen := by unfold maxLen; omega
  go_enter Try.func37, Try.ntmps37
  go_wp2_with fail
  refine (impl_IsPuzzle A _ c B l _ rfl hs (Nat.le_trans hB hd.size) hl).mono ?_
  rintro e w1 ⟨rfl, hb⟩
  replace Q := Lib.hid (Q.out.kept hb)
  replace hs := hs.below (hb.mono (Nat.le_trans hB hd.size))
  replace hd := below_kept hd (Nat.le_refl _) hb
  clear hb
  cases hp : pzB l
  · have HE := Lib.hid (tpxE_no hp hd)
    clear hp hd hs Q
    go_wp2
    go_ret2
    exact HE.out
  · have HE := Lib.hid fun (w' : World) (hb : Below w1.heap.size w1 w') => tpxE_yes hp (below_kept hd (Nat.le_refl _) hb)
    obtain ⟨h3, h9⟩ := pzB_len hp
    have HG := Lib.hid (pzB_get hp)
    have cq := Q.out.cell
    have yq := Q.out.lt
    have hB1 := Nat.le_trans hB hd.size
    clear hp hd
    go_wp2_with (at_make; refine wpList_make_full _ rfl _ _ _ rfl w1.heap.size 5 i0 (.int .u8 0) 1 Try.underlying50 hi hz0 hz1 _ _ _ _ l.length rfl rfl rfl rfl hbytes hmax (Nat.le_refl _) ?_; intro w2 hown2 hgrow2; (have hb2 : Below w1.heap.size w1 w2 := (Below.refl _ _).grown hgrow2 (Nat.le_refl _) (by simp)); (have cq2 := (Q.out.kept hb2).cell))
    have e1 : (madeCells (Value.int .u8 0).cells (l.length * 1)).toList = ubs (signU l 0) := by
      rw [signU_zero, Nat.mul_one]
      show (madeCells #[Value.int .u8 0] l.length).toList = _
      rw [toList_madeCells_one]
      simp [ubs]
    rw [e1] at hown2
    have hs2 := hs.below (hb2.mono hB1)
    have hz := hb2.size
    clear e1 hgrow2 hs cq yq
    go_wp2
    go_loopw [5, 6, 17] (fun _ _ i wr => ∃ k : Nat, k ≤ l.length ∧ i = .int .i64 k ∧ wr.ownsRow w1.heap.size 5 1 (.slice (some ⟨w1.heap.size, 0, none⟩) l.length l.length) l.length (ubs (signU l k)) ∧ Below w1.heap.size w1 wr ∧ SlI wr B A l) (fun _ _ i _ => l.length - (intOf i).toNat)
    case atStart => exact ⟨0, Nat.zero_le _, rfl, hown2, hb2, hs2⟩
    case round =>
      obtain ⟨k, hk, rfl, ho, hb, hA⟩ := hrel
      by_cases hlt : k < l.length
      · obtain ⟨b, off, rfl, hbB, hc⟩ := hA (by omega)
        have g := hc k hlt
        have j0 : (0 : Int) ≤ (k : Int) := by omega
        have j1 : (k : Int) < (l.length : Int) := by omega
        obtain ⟨x0, x1⟩ := HG.out k hlt
        have hcell : wr.cell? ⟨w1.heap.size, k, none⟩ = some (.int .u8 (((signU l k).getD k 0).toNat : Int)) := by
          rw [ho.cellAt k (by omega), ubs_get _ _ (by rw [signU_length l k hk]; exact hlt)]
        have hfro := ho.frozenAt k
        have hst := ho.stored k (.int .u8 ((pzc (l.getD k 0)).toNat : Int))
        rw [ubs_set, signU_succ l k hlt] at hst
        obtain ⟨hs1, hg1⟩ := hst
        have hb3 := hb.setCell (p := ⟨w1.heap.size, k, none⟩) (Nat.le_refl _) (.int .u8 ((pzc (l.getD k 0)).toNat : Int))
        have hA3 : SlI (wr.setCell ⟨w1.heap.size, k, none⟩ (.int .u8 ((pzc (l.getD k 0)).toNat : Int))) B (some ⟨b, off, none⟩) l := hA.keep fun b o hb => World.cell?_setCell_other _ _ _ _ (by intro e; injection e with e; omega)
        have hx7 : l.getD k 0 = 0 ∨ l.getD k 0 = 1 ∨ l.getD k 0 = 2 ∨ l.getD k 0 = 3 ∨ l.getD k 0 = 4 ∨ l.getD k 0 = 5 ∨ l.getD k 0 = 6 ∨ l.getD k 0 = 7 := by omega
        clear ho hg1 hc hown2 hb2 hs2 x0 x1 hA
        generalize ((signU l k).getD k 0) = z at *
        generalize l.getD k 0 = x at *
        rcases hx7 with rfl | rfl | rfl | rfl | rfl | rfl | rfl | rfl
        all_goals
          have P1 := Lib.hid hs1
          have P2 := Lib.hid hb3
          have P3 := Lib.hid hA3
          clear hs1 hb3 hA3
          go_wp2
          go_roundw
        all_goals first
          | exact ⟨k + 1, by omega, by go_num, P1.out, P2.out, P3.out⟩
          | (simp [intOf]; omega)
      · obtain rfl : k = l.length := by omega
        rw [signU_all] at ho
        have hcv := run_text (L := txP l) (txP_length l) ho
        have HF := Lib.hid (HE.out _ hb)
        clear ho hb hA hown2 hb2 hs2 HE HG
        generalize bsL (txP l) = T at *
        go_wp2
        go_ret2
        exact HF.out

theorem WPuzzleText.walk (w : World) (A : Option Addr) (c : Nat) (l : List Int) (h : SlI w w.heap.size A l)
    (hj : l.length ≤ c ∧ c ≤ maxLen ∧ ∀ x ∈ l, (Lit.int .i64 x).wf = true) :
    Calls Try.prog 10 #[.agg #[.slice A l.length c]] w fun e w' => e = .returned (.bool true) ∧ Below w.heap.size w w' :=
  WPuzzleText.core w A c l h hj.1 hj.2.1 (tpxR l) (pzB l)
    (Lib.hid fun A c w h hl hlc => spec_PuzzleText A c _ l w h (Nat.le_refl _) hl)
    (Lib.hid fun A c w h hl hlc => impl_PuzzleText A c _ l w h (Nat.le_refl _) hl)
end Go.Proofs.Ytnoddecligmjbaa
