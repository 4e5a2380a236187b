/- CwA: one text, since a claim holds 60 files at most. -/
import Derived.Test.YtlnnnjnboknoeaaCntM
import Derived.Test.YtlnnnjnboknoeaaLess
import Derived.Test.YtlnnnjnboknoeaaSizesOfCutW
import Derived.Test.YtlnnnjnboknoeaaMapR
import Derived.Test.YtlnnnjnboknoeaaCutI
import Derived.Test.YtlnnnjnboknoeaaPocI
import Derived.Test.YtlnnnjnboknoeaaCugS
import Derived.Test.YtlnnnjnboknoeaaLawM
import Derived.Test.YtlnnnjnboknoeaaAppI
import Derived.Test.YtlnnnjnboknoeaaInsD
import Derived.Test.YtlnnnjnboknoeaaMapD
import Derived.Test.YtlnnnjnboknoeaaMove
import Derived.Test.YtlnnnjnboknoeaaFlipM
import Derived.IntWalk
import Derived.Shelf.Spec.SlicesInsert
import Derived.Lib.SliceRun
/- CntT: Ways to choose, and how many triangulations there are: both sides' functions. -/
namespace Go.Proofs.Ytlnnnjnboknoeaa
set_option linter.unusedVariables false
open Go.RowKit

set_option maxHeartbeats 1600000 in
theorem spec_caChoose (n k : Nat) (w : World) (hn : n ≤ 20) (hk : k ≤ n) :
    Calls Try.prog 111 #[.int .i64 n, .int .i64 k] w fun e w' => e = .returned (.int .i64 (chI n k)) ∧ w = w' := by
  rw [← chS_eq hn hk]
  go_enter Try.func111, Try.ntmps111
  go_wp2
  go_loop [5, 6] (fun o i => ∃ t : Nat, t ≤ k ∧ i = .int .i64 (t + 1) ∧ o = .int .i64 (chS n k t)) (fun _ i => k + 1 - (intOf i).toNat)
  case atStart => exact ⟨0, Nat.zero_le _, rfl, rfl⟩
  case round =>
    obtain ⟨t, ht, rfl, rfl⟩ := hrel
    by_cases hlt : t < k
    · have hb := chS_le hn hk ht
      have hm := mul_bd hb (show n - k + (t + 1) ≤ 20 by omega)
      have hfin := step_div (p := chS n k t) (s := n - k + (t + 1)) (d := t + 1) (r := chS n k (t + 1)) (by omega) rfl (a := (n : Int) - (k : Int) + ((t : Int) + 1)) (e := (t : Int) + 1) (by omega) (by omega)
      have Hfin := Lib.hid hfin
      generalize ((chS n k t : Nat) : Int) = p at *
      clear hb hm hfin
      go_wp2
      go_round
      case rel => exact ⟨t + 1, by omega, by go_num, by rw [Hfin.out]⟩
      case measure => simp [intOf]; omega
    · obtain rfl : t = k := by omega
      go_wp2
      go_ret
      exact ⟨rfl, rfl⟩

set_option maxHeartbeats 1600000 in
theorem spec_caCount (n : Nat) (w : World) (h2 : 2 ≤ n) (hn : n ≤ 12) :
    Calls Try.prog 84 #[.int .i64 n] w fun e w' => e = .returned (.int .i64 (cntT n)) ∧ w = w' := by
  have hc := spec_caChoose (2 * n - 4) (n - 2) w (by omega) (by omega)
  have e1 : ((2 * n - 4 : Nat) : Int) = 2 * (n : Int) - 4 := by omega
  have e2 : ((n - 2 : Nat) : Int) = (n : Int) - 2 := by omega
  rw [e1, e2] at hc
  have hr := cntT_run h2 hn
  have Hc := Lib.hid hc
  have Hr := Lib.hid hr
  have n1 : (2 : Int) ≤ (n : Int) := by omega
  have n2 : (n : Int) ≤ 12 := by omega
  generalize ((chI (2 * n - 4) (n - 2) : Nat) : Int) = q at *
  clear hc hr e1 e2
  go_enter Try.func84, Try.ntmps84
  go_wp2_with fail
  refine Hc.out.mono ?_
  rintro e w1 ⟨rfl, rfl⟩
  go_wp2
  go_ret
  exact ⟨ret_int Hr.out, rfl⟩

set_option maxHeartbeats 1600000 in
theorem impl_waysToChoose (k n : Nat) (w : World) (hn : n ≤ 20) (hk : k ≤ n) :
    Calls Try.prog 100 #[.int .i64 k, .int .i64 n] w fun e w' => e = .returned (.int .i64 (chI n k)) ∧ w = w' := by
  go_enter Try.func100, Try.ntmps100
  go_wp2
  go_loop [5, 6, 8] (fun o _ i => ∃ t : Nat, t ≤ k ∧ i = .int .i64 t ∧ o = .int .i64 (chI n t)) (fun _ _ i => k - (intOf i).toNat)
  case atStart => exact ⟨0, Nat.zero_le _, rfl, rfl⟩
  case round =>
    obtain ⟨t, ht, rfl, rfl⟩ := hrel
    by_cases hlt : t < k
    · have hb := chI_le (n := n) (i := t) hn (by omega)
      have hm := mul_bd hb (show n - t ≤ 20 by omega)
      have hfin := step_div (p := chI n t) (s := n - t) (d := t + 1) (r := chI n (t + 1)) (by omega) rfl (a := (n : Int) - (t : Int)) (e := (t : Int) + 1) (by omega) (by omega)
      have Hfin := Lib.hid hfin
      generalize ((chI n t : Nat) : Int) = p at *
      clear hb hm hfin
      go_wp2
      go_round
      case rel => exact ⟨t + 1, by omega, by go_num, by rw [Hfin.out]⟩
      case measure => simp [intOf]; omega
    · obtain rfl : t = k := by omega
      go_wp2
      go_ret
      exact ⟨rfl, rfl⟩

set_option maxHeartbeats 1600000 in
theorem impl_countTriangulations (n : Nat) (w : World) (h2 : 2 ≤ n) (hn : n ≤ 12) :
    Calls Try.prog 64 #[.int .i64 n] w fun e w' => e = .returned (.int .i64 (cntT n)) ∧ w = w' := by
  have hc := impl_waysToChoose (n - 2) (2 * n - 4) w (by omega) (by omega)
  have e1 : ((2 * n - 4 : Nat) : Int) = 2 * (n : Int) - 4 := by omega
  have e2 : ((n - 2 : Nat) : Int) = (n : Int) - 2 := by omega
  rw [e1, e2] at hc
  have hr := cntT_run h2 hn
  have Hc := Lib.hid hc
  have Hr := Lib.hid hr
  have n1 : (2 : Int) ≤ (n : Int) := by omega
  have n2 : (n : Int) ≤ 12 := by omega
  generalize ((chI (2 * n - 4) (n - 2) : Nat) : Int) = q at *
  clear hc hr e1 e2
  go_enter Try.func64, Try.ntmps64
  go_wp2_with fail
  refine Hc.out.mono ?_
  rintro e w1 ⟨rfl, rfl⟩
  go_wp2
  go_ret
  exact ⟨ret_int Hr.out, rfl⟩
end Go.Proofs.Ytlnnnjnboknoeaa

/- CountFinerW: CountFiner: the model's and the program's contract, and the law's walk. -/
namespace Go.Proofs.Ytlnnnjnboknoeaa
open Go.RowKit

/-- the product, over sizes, of how many triangulations polygons of that size have -/
def prodN : List Nat → Nat
  | [] => 1
  | a :: L => cntT a * prodN L
theorem prodN_append (L M : List Nat) : prodN (L ++ M) = prodN L * prodN M := by
  induction L with
  | nil => simp [prodN]
  | cons a L ih => simp only [List.cons_append, prodN, ih, Nat.mul_assoc]
theorem prodN_perm {L M : List Nat} (h : L.Perm M) : prodN L = prodN M := by
  induction h with
  | nil => rfl
  | cons a _ ih => simp only [prodN, ih]
  | swap a b L => simp only [prodN, ← Nat.mul_assoc, Nat.mul_comm (cntT b) (cntT a)]
  | trans _ _ h1 h2 => exact h1.trans h2
theorem cnt_pow : ∀ a : Fin 13, 3 ≤ (a : Nat) → cntT a ≤ 4 ^ ((a : Nat) - 2) := by decide +kernel
theorem cnt_pos : ∀ a : Fin 13, 3 ≤ (a : Nat) → 1 ≤ cntT a := by decide +kernel
theorem prodN_bd (L : List Nat) (h : ∀ a ∈ L, 3 ≤ a ∧ a ≤ 12) : prodN L ≤ 4 ^ ((L.map fun a => a - 2).sum) := by
  induction L with
  | nil => simp [prodN]
  | cons a L ih =>
    have h1 := ih (fun b hb => h b (List.mem_cons_of_mem _ hb))
    have h2 := h a (by simp)
    have h3 := cnt_pow ⟨a, by omega⟩ h2.1
    simp only [prodN, List.map_cons, List.sum_cons, Nat.pow_add]
    exact Nat.mul_le_mul h3 h1
theorem prodN_take (L : List Nat) (k : Nat) (hk : k < L.length) : prodN (L.take (k + 1)) = prodN (L.take k) * cntT L[k] := by
  rw [List.take_succ_eq_append_getElem hk, prodN_append]
  simp [prodN]
theorem sum_take_le (L : List Nat) (k : Nat) : (L.take k).sum ≤ L.sum := by
  conv => rhs; rw [← List.take_append_drop k L, List.sum_append]
  omega
theorem prodN_le {L : List Nat} {S : Nat} (h : ∀ a ∈ L, 3 ≤ a ∧ a ≤ 12) (hS : L.sum = S + 2 * L.length) (hS10 : S ≤ 10) (k : Nat) : prodN (L.take k) ≤ 1048576 := by
  have h1 := prodN_bd (L.take k) (fun a ha => h a (List.mem_of_mem_take ha))
  have h2 : ((L.take k).map fun a => a - 2).sum ≤ (L.map fun a => a - 2).sum := by rw [List.map_take]; exact sum_take_le _ _
  have h3 : ∀ M : List Nat, (∀ a ∈ M, 3 ≤ a ∧ a ≤ 12) → (M.map fun a => a - 2).sum + 2 * M.length = M.sum := by
    intro M
    induction M with
    | nil => intro _; simp
    | cons a M ih =>
      intro hM
      have h4 := ih (fun b hb => hM b (List.mem_cons_of_mem _ hb))
      have h5 := hM a (by simp)
      simp only [List.map_cons, List.sum_cons, List.length_cons]
      omega
  have h4 := h3 L h
  have h5 : 4 ^ (((L.take k).map fun a => a - 2).sum) ≤ 4 ^ 10 := Nat.pow_le_pow_right (by omega) (by omega)
  exact Nat.le_trans h1 h5

/-- the lengths of a cut's pieces -/
def lnN (T : List (List Int)) : List Nat := T.map List.length
theorem cut_lens {n : Nat} {l : List (Int × Int)} (h : cutB (n : Int) l = true) : (lnN (pcL n l)).sum = (n - 2) + 2 * (lnN (pcL n l)).length ∧ (lnN (pcL n l)).length = l.length + 1 ∧ ∀ a ∈ lnN (pcL n l), 3 ≤ a ∧ a ≤ 12 := by
  obtain ⟨n3, n12, ho, hn, hnc, hnd, h9⟩ := cut_nc h
  obtain ⟨Ls, h1, h2, h3⟩ := cuts_some n3 ho _ (Nat.le_refl _) hn
  rw [List.take_length] at h1 h2
  have hp : Ls.Perm (pcL n l) := h2.trans (pcL_perm hnc n3 hnd).symm
  have hs : (lnN (pcL n l)).sum = n + 2 * l.length := by rw [← h3]; exact ((hp.map List.length).sum_nat).symm
  have hl : (lnN (pcL n l)).length = l.length + 1 := by unfold lnN; rw [List.length_map, (pcL_facts h).1]
  refine ⟨by rw [hs, hl]; omega, hl, fun a ha => ?_⟩
  unfold lnN at ha
  obtain ⟨P, hP, rfl⟩ := List.mem_map.1 ha
  have := (pcL_facts h).2 P hP
  omega
theorem sz_nat {n : Nat} {l : List (Int × Int)} (h : cutB (n : Int) l = true) : ∃ L : List Nat, szU (pcL n l) (n - 2) = L.map (fun (a : Nat) => (a : Int)) ∧ L.Perm (lnN (pcL n l)) := by
  refine ⟨(szU (pcL n l) (n - 2)).map Int.toNat, ?_, ?_⟩
  · rw [List.map_map]
    conv => lhs; rw [← List.map_id (szU (pcL n l) (n - 2))]
    refine List.map_congr_left fun x hx => ?_
    obtain ⟨P, _, rfl⟩ := (mem_szU (sz_h3 h)).1 hx
    simp
  · rw [← szU_eq (sz_h3 h)]
    refine ((List.mergeSort_perm _ _).map _).trans ?_
    unfold lens lnN
    rw [List.map_map]
    have e : (pcL n l).map (Int.toNat ∘ fun P : List Int => (P.length : Int)) = (pcL n l).map List.length := List.map_congr_left fun P _ => by simp
    rw [e]

def cfR (n : Int) (l : List (Int × Int)) : Int := if cutB n l = true then (prodN (lnN (pcL n.toNat l)) : Int) else 0
def CfE (n : Int) (l : List (Int × Int)) (w : World) (e : Ending) (w' : World) : Prop := e = .returned (.tuple #[.int .i64 (cfR n l), .bool (cutB n l)]) ∧ Below w.heap.size w w'
theorem cfE_no {n : Int} {l : List (Int × Int)} {w w' : World} (h : cutB n l = false) (hb : Below w.heap.size w w') : CfE n l w (.returned (.tuple #[.int .i64 0, .bool false])) w' := by
  unfold CfE cfR
  rw [h]
  exact ⟨rfl, hb⟩
theorem cfE_yes {n : Nat} {l : List (Int × Int)} {w w' : World} {v : Nat} (h : cutB (n : Int) l = true) (h2 : prodN (lnN (pcL n l)) = v) (hb : Below w.heap.size w w') : CfE (n : Int) l w (.returned (.tuple #[.int .i64 (v : Int), .bool true])) w' := by
  unfold CfE cfR
  rw [h, Int.toNat_natCast, h2]
  exact ⟨rfl, hb⟩
theorem cf_run {p q : Nat} (hp : p ≤ 1048576) (hq : q ≤ 16796) : wrap64 ((p : Int) * (q : Int)) = ((p * q : Nat) : Int) := by
  have h := Nat.mul_le_mul hp hq
  rw [← Int.natCast_mul]
  exact wrap_ok ((p * q : Nat) : Int) (by omega)

set_option maxHeartbeats 1600000 in
theorem spec_cuChooseF (n k : Nat) (w : World) (hn : n ≤ 20) (hk : k ≤ n) :
    Calls Try.prog 63 #[.int .i64 n, .int .i64 k] w fun e w' => e = .returned (.int .i64 (chI n k)) ∧ w = w' := by
  go_enter Try.func63, Try.ntmps63
  go_wp2
  go_loop [5, 6] (fun o i => ∃ t : Nat, t ≤ k ∧ i = .int .i64 t ∧ o = .int .i64 (chI n t)) (fun _ i => k - (intOf i).toNat)
  case atStart => exact ⟨0, Nat.zero_le _, rfl, rfl⟩
  case round =>
    obtain ⟨t, ht, rfl, rfl⟩ := hrel
    by_cases hlt : t < k
    · have hb := chI_le (n := n) (i := t) hn (by omega)
      have hm := mul_bd hb (show n - t ≤ 20 by omega)
      have hfin := step_div (p := chI n t) (s := n - t) (d := t + 1) (r := chI n (t + 1)) (by omega) rfl (a := (n : Int) - (t : Int)) (e := (t : Int) + 1) (by omega) (by omega)
      have Hfin := Lib.hid hfin
      generalize ((chI n t : Nat) : Int) = p at *
      clear hb hm hfin
      go_wp2
      go_round
      case rel => exact ⟨t + 1, by omega, by go_num, by rw [Hfin.out]⟩
      case measure => simp [intOf]; omega
    · obtain rfl : t = k := by omega
      go_wp2
      go_ret
      exact ⟨rfl, rfl⟩
theorem cat_run {k : Nat} (hk : k ≤ 10) : wrap64 (((chI (2 * k) k : Nat) : Int) / ((k : Int) + 1)) = ((cntT (k + 2) : Nat) : Int) := by
  have h := cntT_run (n := k + 2) (by omega) (by omega)
  rw [show 2 * (k + 2) - 4 = 2 * k by omega, show k + 2 - 2 = k by omega] at h
  have e : ((k + 2 : Nat) : Int) - 1 = (k : Int) + 1 := by omega
  rw [e, Int.tdiv_eq_ediv_of_nonneg (by omega)] at h
  exact h

set_option maxRecDepth 100000 in
set_option maxHeartbeats 3200000 in
theorem spec_CountFiner (n : Int) (A : Option Addr) (c B : Nat) (l : List (Int × Int)) (w : World) (h : SlD w B A l) (hB : B ≤ w.heap.size) (hl : l.length ≤ 1048576) (hlc : l.length ≤ c) :
    Calls Try.prog 33 #[.int .i64 n, .slice A l.length c] w (CfE n l w) := by
  have HG := Lib.hid (spec_cuGood n A c B l w h hB hl hlc)
  cases hc : cutB n l
  · rw [hc] at HG
    have HE := Lib.hid fun w' (hb : Below w.heap.size w w') => cfE_no hc hb
    clear h hc
    go_enter Try.func33, Try.ntmps33
    go_wp2_with fail
    refine HG.out.mono ?_
    rintro e w1 ⟨rfl, hb1⟩
    have HF := Lib.hid (HE.out _ hb1)
    go_wp2
    go_ret2
    exact HF.out
  · rw [hc] at HG
    obtain ⟨h3, h12, h9⟩ := cutB_len hc
    obtain ⟨m, rfl⟩ := Int.eq_ofNat_of_zero_le (show 0 ≤ n by omega)
    have HP := Lib.hid fun w1 (hb : Below w.heap.size w w1) => spec_cuPieces m A c B l.length l w1 (by omega) (by omega) rfl (by omega) (cut_nc hc).2.2.2.2.1 (h.below (hb.mono hB)) (Nat.le_trans hB hb.size)
    have hf := pcL_facts hc
    obtain ⟨c1, c2, c3⟩ := cut_lens hc
    have HE := Lib.hid fun w' v h2 (hb : Below w.heap.size w w') => cfE_yes (v := v) hc h2 hb
    have Hbd := Lib.hid fun k => prodN_le c3 c1 (by omega) k
    have Hc3 := Lib.hid c3
    obtain ⟨K, hK⟩ : ∃ K, (pcL m l).length = K := ⟨_, rfl⟩
    have hK10 : K ≤ 10 := by rw [← hK, hf.1]; omega
    have HK := Lib.hid hK
    unfold GivSS at HP
    rw [hK] at HP
    generalize pcL m l = T at *
    clear h hc hf hK c1 c2 c3
    go_enter Try.func33, Try.ntmps33
    go_wp2_with fail
    refine HG.out.mono ?_
    rintro e w1 ⟨rfl, hb1⟩
    go_wp2_with fail
    refine (HP.out _ hb1).mono ?_
    rintro e w2 ⟨A1, c1, rfl, hs1, hb2⟩
    have S1 := Lib.hid hs1.to
    have B1 := Lib.hid (below_kept hb1 (Nat.le_refl _) hb2)
    clear hs1 hb1 hb2
    go_wp2
    go_loop [6, 8, 9, 18] (fun ov _ _ iv => ∃ k : Nat, k ≤ K ∧ iv = .int .i64 k ∧ ov = .int .i64 (prodN ((lnN T).take k))) (fun _ _ _ iv => K - (intOf iv).toNat)
    case atStart => exact ⟨0, Nat.zero_le _, rfl, rfl⟩
    case round =>
      obtain ⟨k, hk, rfl, rfl⟩ := hrel
      by_cases hlt : k < K
      · obtain ⟨g, off, rfl, hgB, hcg⟩ := S1.out (by rw [HK.out]; omega)
        obtain ⟨Aj, cj, y0, _⟩ := hcg k (by rw [HK.out]; exact hlt)
        have k1 : (k : Int) < (K : Int) := by omega
        have hkl : k < (lnN T).length := by unfold lnN; rw [List.length_map, HK.out]; exact hlt
        have hnx := prodN_take (lnN T) k hkl
        have hm := Hc3.out _ (List.getElem_mem hkl)
        have he : (lnN T)[k] = (rowOf T k).length := by simp [lnN, rowOf, show k < T.length by rw [HK.out]; exact hlt]
        rw [he] at hnx hm
        obtain ⟨q, hq⟩ : ∃ q, (rowOf T k).length = q + 2 := ⟨(rowOf T k).length - 2, by omega⟩
        rw [hq] at y0 hnx hm
        have hb2 := cntT_bd (n := q + 2) (by omega)
        have hrun := cf_run (Hbd.out k) hb2
        have Hcall := Lib.hid fun w => spec_cuChooseF (2 * q) q w (by omega) (by omega)
        have hcat := cat_run (k := q) (by omega)
        have e2 : ((2 * q : Nat) : Int) = 2 * (q : Int) := by omega
        rw [e2] at Hcall
        have q1 : (q : Int) ≤ 10 := by omega
        have Hnx := Lib.hid hnx
        have hpb := Hbd.out k
        have Hcat := Lib.hid hcat
        have Hrun := Lib.hid hrun
        clear hcg he hq hnx hcat hrun e2
        generalize prodN ((lnN T).take k) = p at *
        generalize chI (2 * q) q = z at *
        generalize cntT (q + 2) = t at *
        go_wp2_with fail
        refine (Hcall.out _).mono ?_
        rintro e w3 ⟨rfl, rfl⟩
        go_wp2
        go_round
        case rel => exact ⟨k + 1, by omega, by go_num, by
          show Value.int .i64 (wrap64 ((p : Int) * wrap64 ((z : Int) / ((q : Int) + 1)))) = _
          rw [Hcat.out, Hrun.out, Hnx.out]⟩
        case measure => simp [intOf]; omega
      · obtain rfl : k = K := by omega
        have ht : (lnN T).take k = lnN T := List.take_of_length_le (by unfold lnN; rw [List.length_map, HK.out]; exact Nat.le_refl _)
        rw [ht]
        have HF := Lib.hid (HE.out w2 _ rfl B1.out)
        clear ht
        generalize prodN (lnN T) = v at *
        go_wp2
        go_ret2
        exact HF.out

set_option maxRecDepth 100000 in
set_option maxHeartbeats 3200000 in
theorem impl_CountFiner (n : Int) (A : Option Addr) (c B : Nat) (l : List (Int × Int)) (w : World) (h : SlD w B A l) (hB : B ≤ w.heap.size) (hl : l.length ≤ 1048576) (hlc : l.length ≤ c) :
    Calls Try.prog 34 #[.int .i64 n, .slice A l.length c] w (CfE n l w) := by
  have HP := Lib.hid (impl_SizesOfCut n A c B l w h hB hl hlc)
  unfold RetI at HP
  cases hc : cutB n l
  · rw [hc, szR_no hc] at HP
    have HE := Lib.hid fun w' (hb : Below w.heap.size w w') => cfE_no hc hb
    clear h hc
    go_enter Try.func34, Try.ntmps34
    go_wp2_with fail
    refine HP.out.mono ?_
    rintro e w1 ⟨A1, c1, rfl, _, hb1⟩
    have HF := Lib.hid (HE.out _ hb1)
    go_wp2
    go_ret2
    exact HF.out
  · obtain ⟨h3, h12, h9⟩ := cutB_len hc
    obtain ⟨m, rfl⟩ := Int.eq_ofNat_of_zero_le (show 0 ≤ n by omega)
    obtain ⟨c1, c2, c3⟩ := cut_lens hc
    have HE := Lib.hid fun w' v h2 (hb : Below w.heap.size w w') => cfE_yes (v := v) hc h2 hb
    obtain ⟨L, hL, hp⟩ := sz_nat hc
    rw [hc, szR_yes hc, hL] at HP
    have d1 : L.sum = (m - 2) + 2 * L.length := by rw [hp.sum_nat, hp.length_eq]; exact c1
    have d3 : ∀ a ∈ L, 3 ≤ a ∧ a ≤ 12 := fun a ha => c3 a (hp.mem_iff.1 ha)
    have Hbd := Lib.hid fun k => prodN_le d3 d1 (by omega) k
    have Hd3 := Lib.hid d3
    have Hpp := Lib.hid (prodN_perm hp)
    obtain ⟨K, hK⟩ : ∃ K, (L.map fun (a : Nat) => (a : Int)).length = K := ⟨_, rfl⟩
    have hK10 : K ≤ 10 := by rw [← hK, List.length_map, hp.length_eq, c2]; omega
    have HK := Lib.hid hK
    rw [hK] at HP
    clear h hc hL hp hK c1 c2 c3 d1 d3
    go_enter Try.func34, Try.ntmps34
    go_wp2_with fail
    refine HP.out.mono ?_
    rintro e w1 ⟨A1, c1, rfl, o1, hb1⟩
    have S1 := Lib.hid (show SlI w1 w1.heap.size A1 (L.map fun (a : Nat) => (a : Int)) from by have := o1; rw [← HK.out] at this; exact SlI.of_own this)
    have B1 := Lib.hid hb1
    clear o1 hb1
    go_wp2
    go_loop [8, 10, 21] (fun ov _ iv => ∃ k : Nat, k ≤ K ∧ iv = .int .i64 k ∧ ov = .int .i64 (prodN (L.take k))) (fun _ _ iv => K - (intOf iv).toNat)
    case atStart => exact ⟨0, Nat.zero_le _, rfl, rfl⟩
    case round =>
      obtain ⟨k, hk, rfl, rfl⟩ := hrel
      by_cases hlt : k < K
      · obtain ⟨g, off, rfl, hgB, hcg⟩ := S1.out (by rw [HK.out]; omega)
        have y0 := hcg k (by rw [HK.out]; exact hlt)
        have k1 : (k : Int) < (K : Int) := by omega
        have hkl : k < L.length := by have := HK.out; rw [List.length_map] at this; omega
        have hnx := prodN_take L k hkl
        have hm := Hd3.out _ (List.getElem_mem hkl)
        have he : (L.map fun (a : Nat) => (a : Int)).getD k 0 = (L[k] : Int) := by simp [hkl]
        rw [he] at y0
        obtain ⟨q, hq⟩ : ∃ q, L[k] = q := ⟨_, rfl⟩
        rw [hq] at y0 hnx hm
        have hb2 := cntT_bd (n := q) (by omega)
        have hrun := cf_run (Hbd.out k) hb2
        have Hcall := Lib.hid fun w => impl_countTriangulations q w (by omega) (by omega)
        have Hnx := Lib.hid hnx
        have hpb := Hbd.out k
        have Hrun := Lib.hid hrun
        clear hcg he hq hnx hrun
        generalize prodN (L.take k) = p at *
        generalize cntT q = t at *
        go_wp2_with fail
        refine (Hcall.out _).mono ?_
        rintro e w3 ⟨rfl, rfl⟩
        go_wp2
        go_round
        case rel => exact ⟨k + 1, by omega, by go_num, by
          show Value.int .i64 (wrap64 ((p : Int) * (t : Int))) = _
          rw [Hrun.out, Hnx.out]⟩
        case measure => simp [intOf]; omega
      · obtain rfl : k = K := by omega
        have ht : L.take k = L := List.take_of_length_le (by have := HK.out; rw [List.length_map] at this; omega)
        rw [ht]
        have HF := Lib.hid (HE.out w1 _ Hpp.out.symm B1.out)
        clear ht
        generalize prodN L = v at *
        go_wp2
        go_ret2
        exact HF.out


end Go.Proofs.Ytlnnnjnboknoeaa

/- CwM: Pieces cut off one after the other, innermost ones first: mathematics. -/
namespace Go.Proofs.Ytlnnnjnboknoeaa

def innB (U : List (Int × Int)) (d : Int × Int) : Bool := U.all fun e => decide (e = d) || !decide (d.1 ≤ e.1 ∧ e.2 ≤ d.2)
theorem innB_iff {U : List (Int × Int)} {d : Int × Int} : innB U d = true ↔ ∀ e ∈ U, e ≠ d → ¬(d.1 ≤ e.1 ∧ e.2 ≤ d.2) := by
  unfold innB
  rw [List.all_eq_true]
  constructor
  · intro h e he hne hh
    have := h e he
    simp [hne, hh] at this
  · intro h e he
    by_cases hne : e = d
    · simp [hne]
    · have := h e he hne
      simp only [decide_eq_false hne, decide_eq_false this]
      rfl
/-- what is cut off is cut off with all that is under it -/
def Dn (n : Nat) (ds U : List (Int × Int)) : Prop := ∀ f ∈ basesC n ds, f ∉ U → ∀ e ∈ basesC n ds, f.1 ≤ e.1 → e.2 ≤ f.2 → e ∉ U
def rstB (n : Nat) (ds U : List (Int × Int)) (c : Int) : Bool := (basesC n ds).all fun f => decide (f ∈ U) || !decide (f.1 < c ∧ c < f.2)
theorem rstB_iff {n : Nat} {ds U : List (Int × Int)} {c : Int} : rstB n ds U c = true ↔ ∀ f ∈ basesC n ds, f ∉ U → ¬(f.1 < c ∧ c < f.2) := by
  unfold rstB
  rw [List.all_eq_true]
  constructor
  · intro h f hf hU hh
    have := h f hf
    simp [hU, hh] at this
  · intro h f hf
    by_cases hU : f ∈ U
    · simp [hU]
    · have := h f hf hU
      simp only [decide_eq_false hU, decide_eq_false this]
      rfl
/-- the corners that are left -/
def rst (n : Nat) (ds U : List (Int × Int)) : List Int := (corI n).filter (rstB n ds U)
theorem mem_rst {n : Nat} {ds U : List (Int × Int)} {c : Int} : c ∈ rst n ds U ↔ (0 ≤ c ∧ c < (n : Int)) ∧ ∀ f ∈ basesC n ds, f ∉ U → ¬(f.1 < c ∧ c < f.2) := by
  unfold rst
  rw [List.mem_filter, mem_corI, rstB_iff]
theorem rst_sort (n : Nat) (ds U : List (Int × Int)) : (rst n ds U).Pairwise (· < ·) := (corI_sort n).sublist List.filter_sublist
theorem rst_len (n : Nat) (ds U : List (Int × Int)) : (rst n ds U).length ≤ n := Nat.le_trans (List.length_filter_le _ _) (by simp [corI])
theorem rst_all (n : Nat) (ds : List (Int × Int)) : rst n ds (basesC n ds) = corI n := by
  unfold rst
  exact List.filter_eq_self.2 fun c _ => rstB_iff.2 fun f hf hU => absurd hf hU

section
variable {n : Nat} {ds U : List (Int × Int)} {d : Int × Int}
theorem rst_ends (h : Nc n ds) (n3 : 3 ≤ n) (hU : ∀ e ∈ U, e ∈ basesC n ds) (hD : Dn n ds U) (hd : d ∈ U) : d.1 ∈ rst n ds U ∧ d.2 ∈ rst n ds U := by
  have hb := base_in h n3 (hU d hd)
  refine ⟨mem_rst.2 ⟨by omega, fun f hf hfU hh => ?_⟩, mem_rst.2 ⟨by omega, fun f hf hfU hh => ?_⟩⟩
  · have hnc := base_nc h hf (hU d hd)
    exact hD f hf hfU d (hU d hd) (by omega) (by omega) hd
  · have hnc := base_nc h hf (hU d hd)
    exact hD f hf hfU d (hU d hd) (by omega) (by omega) hd
theorem rst_inn (h : Nc n ds) (n3 : 3 ≤ n) (hU : ∀ e ∈ U, e ∈ basesC n ds) (hD : Dn n ds U) (hd : d ∈ U) (hi : innB U d = true) : innP (rst n ds U) d = pc n ds d := by
  unfold innP rst pc
  rw [List.filter_filter]
  refine List.filter_congr fun c hc => bool_ext ?_
  rw [Bool.and_eq_true, decide_eq_true_eq, rstB_iff, pcF_iff]
  have hi := innB_iff.1 hi
  constructor
  · rintro ⟨h1, h2⟩
    refine ⟨h1, fun e he a b c1 c2 => ?_⟩
    by_cases hne : e = d
    · rw [hne]; exact ⟨rfl, rfl⟩
    · refine absurd ⟨c1, c2⟩ (h2 e (List.mem_cons_of_mem _ he) fun heU => hi e heU hne ⟨a, b⟩)
  · rintro ⟨h1, h2⟩
    refine ⟨h1, fun f hf hfU hh => ?_⟩
    have hnc := base_nc h hf (hU d hd)
    have hbd := base_in h n3 (hU d hd)
    by_cases hin : d.1 ≤ f.1 ∧ f.2 ≤ d.2
    · rcases List.mem_cons.1 hf with rfl | hf2
      · dsimp only at *
        refine hfU ?_
        have : d = (0, (n : Int) - 1) := Prod.ext (by dsimp only; omega) (by dsimp only; omega)
        rw [← this]; exact hd
      · have := h2 f hf2 hin.1 hin.2 hh.1 hh.2
        exact hfU (by rw [show f = d from Prod.ext this.1 this.2]; exact hd)
    · by_cases hout : f.1 ≤ d.1 ∧ d.2 ≤ f.2
      · exact hD f hf hfU d (hU d hd) hout.1 hout.2 hd
      · omega
theorem rst_out (hd : d ∈ U) (hU : ∀ e ∈ U, e ∈ basesC n ds) : outP (rst n ds U) d = rst n ds (offU U d) := by
  unfold outP rst
  rw [List.filter_filter]
  refine List.filter_congr fun c hc => bool_ext ?_
  rw [Bool.and_eq_true, decide_eq_true_eq, rstB_iff, rstB_iff]
  constructor
  · rintro ⟨h1, h2⟩ f hf hfU hh
    by_cases e : f = d
    · rw [e] at hh; omega
    · exact h2 f hf (fun hx => hfU (mem_off.2 ⟨hx, e⟩)) hh
  · intro h
    refine ⟨?_, fun f hf hfU => h f hf fun hx => hfU (mem_off.1 hx).1⟩
    have := h d (hU d hd) (fun hx => (mem_off.1 hx).2 rfl)
    omega
theorem dn_off (hD : Dn n ds U) (hi : innB U d = true) : Dn n ds (offU U d) := by
  intro f hf hfU e he h1 h2 hx
  obtain ⟨h3, h4⟩ := mem_off.1 hx
  by_cases e1 : f = d
  · rw [e1] at h1 h2
    exact innB_iff.1 hi e h3 h4 ⟨h1, h2⟩
  · exact hD f hf (fun hh => hfU (mem_off.2 ⟨hh, e1⟩)) e he h1 h2 h3
/-- the sizes of what is cut off -/
def donU (n : Nat) (ds U : List (Int × Int)) : List Nat := ((basesC n ds).filter fun f => decide (f ∉ U)).map fun f => (pc n ds f).length
theorem don_step (hnd : (basesC n ds).Nodup) (hU : ∀ e ∈ U, e ∈ basesC n ds) (hd : d ∈ U) : (donU n ds (offU U d)).Perm ((pc n ds d).length :: donU n ds U) := by
  have hp : ((basesC n ds).filter fun f => decide (f ∉ offU U d)).Perm (d :: (basesC n ds).filter fun f => decide (f ∉ U)) := by
    refine (List.perm_ext_iff_of_nodup (hnd.sublist List.filter_sublist) (List.nodup_cons.2 ⟨fun hx => ?_, hnd.sublist List.filter_sublist⟩)).2 fun f => ?_
    · have := (List.mem_filter.1 hx).2
      rw [decide_eq_true_eq] at this
      exact this hd
    · rw [List.mem_cons, List.mem_filter, List.mem_filter, decide_eq_true_eq, decide_eq_true_eq, mem_off]
      constructor
      · rintro ⟨h1, h2⟩
        by_cases e : f = d
        · exact .inl e
        · exact .inr ⟨h1, fun hx => h2 ⟨hx, e⟩⟩
      · rintro (rfl | ⟨h1, h2⟩)
        · exact ⟨hU f hd, fun hx => hx.2 rfl⟩
        · exact ⟨h1, fun hx => h2 hx.1⟩
  exact hp.map _
theorem don_start : donU n ds (basesC n ds) = [] := by
  unfold donU
  rw [List.filter_eq_nil_iff.2 fun f hf => by rw [decide_eq_true_eq]; exact fun h => h hf]
  rfl
theorem don_end : donU n ds [] = (basesC n ds).map fun f => (pc n ds f).length := by
  unfold donU
  rw [List.filter_eq_self.2 fun f _ => by simp]
theorem inn_min {U : List (Int × Int)} (hne : U ≠ []) : ∃ d ∈ U, ∀ e ∈ U, d.2 - d.1 ≤ e.2 - e.1 := by
  induction U with
  | nil => exact absurd rfl hne
  | cons a r ih =>
    by_cases hr : r = []
    · subst hr
      exact ⟨a, by simp, fun e he => by rw [List.mem_singleton.1 he]; exact Int.le_refl _⟩
    · obtain ⟨d, hd, hm⟩ := ih hr
      by_cases hx : a.2 - a.1 ≤ d.2 - d.1
      · refine ⟨a, by simp, fun e he => ?_⟩
        rcases List.mem_cons.1 he with rfl | he
        · exact Int.le_refl _
        · have := hm e he; omega
      · refine ⟨d, List.mem_cons_of_mem _ hd, fun e he => ?_⟩
        rcases List.mem_cons.1 he with rfl | he
        · omega
        · exact hm e he
theorem inn_some {U : List (Int × Int)} (hne : U ≠ []) : ∃ d ∈ U, innB U d = true := by
  obtain ⟨d, hd, hm⟩ := inn_min hne
  refine ⟨d, hd, innB_iff.2 fun e he hx hh => hx ?_⟩
  have := hm e he
  exact Prod.ext (by omega) (by omega)
end

theorem sum_sub {L M : List Nat} (h : L.Sublist M) : L.sum ≤ M.sum := by
  induction h with
  | slnil => exact Nat.le_refl _
  | cons a _ ih => rw [List.sum_cons]; omega
  | cons_cons a _ ih => rw [List.sum_cons, List.sum_cons]; omega
section
variable {n : Nat} {ds U : List (Int × Int)}
theorem all_perm (hc : cutB (n : Int) ds = true) : ((basesC n ds).map fun f => (pc n ds f).length).Perm (lnN (pcL n ds)) := by
  obtain ⟨n3, n12, ho, hn, hnc, hnd, h9⟩ := cut_nc hc
  have := (pcL_perm hnc n3 hnd).symm.map List.length
  rw [List.map_map] at this
  exact this
/-- what is cut off has not too many triangulations -/
theorem don_bd (hc : cutB (n : Int) ds = true) : prodN (donU n ds U) ≤ 1048576 := by
  obtain ⟨c1, c2, c3⟩ := cut_lens hc
  obtain ⟨n3, n12, _⟩ := cut_nc hc
  have hp := all_perm hc
  have hsub : (donU n ds U).Sublist ((basesC n ds).map fun f => (pc n ds f).length) := (List.filter_sublist).map _
  have hall : ∀ a ∈ (basesC n ds).map fun f => (pc n ds f).length, 3 ≤ a ∧ a ≤ 12 := fun a ha => c3 a (hp.mem_iff.1 ha)
  have h1 := prodN_bd (donU n ds U) (fun a ha => hall a (hsub.subset ha))
  have h2 := sum_sub (hsub.map fun a => a - 2)
  have h3 : ∀ M : List Nat, (∀ a ∈ M, 3 ≤ a ∧ a ≤ 12) → (M.map fun a => a - 2).sum + 2 * M.length = M.sum := by
    intro M
    induction M with
    | nil => intro _; simp
    | cons a M ih =>
      intro hM
      have h4 := ih (fun b hb => hM b (List.mem_cons_of_mem _ hb))
      have h5 := hM a (by simp)
      simp only [List.map_cons, List.sum_cons, List.length_cons]
      omega
  have h4 := h3 _ hall
  rw [hp.sum_nat, hp.length_eq] at h4
  have h5 : 4 ^ (((donU n ds U).map fun a => a - 2).sum) ≤ 4 ^ 10 := Nat.pow_le_pow_right (by omega) (by omega)
  exact Nat.le_trans h1 h5
theorem pc_bd (hc : cutB (n : Int) ds = true) {d : Int × Int} (hd : d ∈ basesC n ds) : 3 ≤ (pc n ds d).length ∧ (pc n ds d).length ≤ 12 :=
  (cut_lens hc).2.2 _ ((all_perm hc).mem_iff.1 (List.mem_map.2 ⟨d, hd, rfl⟩))
theorem don_end_prod (hc : cutB (n : Int) ds = true) : prodN (donU n ds []) = prodN (lnN (pcL n ds)) := by rw [don_end, prodN_perm (all_perm hc)]
/-- where a base's ends are among the corners left, and what is left without what is under it -/
theorem rst_at (hc : cutB (n : Int) ds = true) (hU : ∀ e ∈ U, e ∈ basesC n ds) (hD : Dn n ds U) {d : Int × Int} (hd : d ∈ U) (hi : innB U d = true) :
    ∃ i j : Nat, ∃ hi : i < (rst n ds U).length, ∃ hj : j < (rst n ds U).length, (rst n ds U)[i] = d.1 ∧ (rst n ds U)[j] = d.2 ∧ i < j ∧ j + 1 - i = (pc n ds d).length ∧ (rst n ds U).take (i + 1) ++ (rst n ds U).drop j = rst n ds (offU U d) := by
  obtain ⟨n3, n12, ho, hn, hnc, hnd, h9⟩ := cut_nc hc
  obtain ⟨m1, m2⟩ := rst_ends hnc n3 hU hD hd
  obtain ⟨i, hi1, e1⟩ := List.getElem_of_mem m1
  obtain ⟨j, hj1, e2⟩ := List.getElem_of_mem m2
  have hb := base_in hnc n3 (hU d hd)
  have hij := sort_of (rst_sort n ds U) hi1 hj1 (by rw [e1, e2]; omega)
  refine ⟨i, j, hi1, hj1, e1, e2, hij, ?_, ?_⟩
  · rw [← rst_inn hnc n3 hU hD hd hi, inn_eq (rst_sort n ds U) hi1 hj1 e1 e2 hij, List.length_take, List.length_drop]
    omega
  · rw [← rst_out hd hU, out_eq (rst_sort n ds U) hi1 hj1 e1 e2 hij]
/-- the same, told of what slices.Index tells -/
theorem rst_ix (hc : cutB (n : Int) ds = true) (hU : ∀ e ∈ U, e ∈ basesC n ds) (hD : Dn n ds U) {x y : Int} (hd : (x, y) ∈ U) (hi : innB U (x, y) = true) :
    ∃ i j : Nat, ixI (rst n ds U) x = (i : Int) ∧ ixI (rst n ds U) y = (j : Int) ∧ i + 2 ≤ j ∧ j < (rst n ds U).length ∧ j + 1 - i = (pc n ds (x, y)).length ∧ (rst n ds U).take (i + 1) ++ (rst n ds U).drop j = rst n ds (offU U (x, y)) ∧ (rst n ds (offU U (x, y))).length = (rst n ds U).length - (j - (i + 1)) := by
  obtain ⟨i, j, h1, h2, e1, e2, h3, h4, h5⟩ := rst_at hc hU hD hd hi
  have hs := rst_sort n ds U
  have hp := (pc_bd hc (hU _ hd)).1
  have ux : ∀ (k : Nat) (hk : k < (rst n ds U).length), ∀ m, (hm : m < (rst n ds U).length) → (rst n ds U)[k] = (rst n ds U)[m] → k = m := fun k hk m hm e => by
    rcases Nat.lt_trichotomy k m with h | h | h
    · have := sort_at hs hm h; omega
    · exact h
    · have := sort_at hs hk h; omega
  obtain ⟨a, ha, ea, fa⟩ := ixI_yes (l := rst n ds U) (x := x) (by rw [← show (rst n ds U)[i] = x from e1]; exact List.getElem_mem h1)
  obtain ⟨b, hb, eb, fb⟩ := ixI_yes (l := rst n ds U) (x := y) (by rw [← show (rst n ds U)[j] = y from e2]; exact List.getElem_mem h2)
  have := ux a ha i h1 (by rw [fa]; exact e1.symm)
  have := ux b hb j h2 (by rw [fb]; exact e2.symm)
  subst a b
  refine ⟨i, j, ea, eb, by omega, h2, h4, h5, ?_⟩
  rw [← h5, List.length_append, List.length_take, List.length_drop]
  omega
end
end Go.Proofs.Ytlnnnjnboknoeaa

/- InnI: The program's isInnermost: a map ranged over, read only. -/
namespace Go.Proofs.Ytlnnnjnboknoeaa
open Go.RowKit

set_option maxRecDepth 100000 in
set_option maxHeartbeats 3200000 in
theorem impl_isInnermost (x y : Int) (b n : Nat) (U : List (Int × Int)) (w : World) (h : SetU w b n U) :
    Calls Try.prog 113 #[.agg #[.int .i64 x, .int .i64 y], .map (some b)] w fun e w' => e = .returned (.bool (innB U (x, y))) ∧ Below w.heap.size w w' := by
  have hbw := h.lt
  obtain ⟨w1, hw1⟩ : ∃ w1, w1 = w.alloc (.cells #[.int .i64 x, .int .i64 y] 49) := ⟨_, rfl⟩
  have hb1 : Below w.heap.size w w1 := by rw [hw1]; exact (Below.refl _ _).alloc (Nat.le_refl _) _
  have hz1 : w1.heap.size = w.heap.size + 1 := by rw [hw1]; simp
  have p0 : w1.cell? ⟨w.heap.size, 0, none⟩ = some (.int .i64 x) := by rw [hw1]; simp [go_sem]
  have p1 : w1.cell? ⟨w.heap.size, 1, none⟩ = some (.int .i64 y) := by rw [hw1]; simp [go_sem]
  have hS := h.below hb1
  have HS := Lib.hid hS
  have Hb1 := Lib.hid hb1
  have Hw1 := Lib.hid hw1
  clear h hS hb1
  go_enter Try.func113, Try.ntmps113
  go_upto_region 1 with fail
  rw [← Hw1.out]
  clear hw1 Hw1
  go_wp2_with (first
    | (at_range; refine wpList_rangeU _ rfl _ rfl b n U rfl HS.out ?_; intro w0 hrg0 hg0 hs0))
  go_frame
  have hb0 : Below w.heap.size w w0 := Hb1.out.grown hg0 Hb1.out.size (by simp)
  have hk0 : Below w1.heap.size w1 w0 := (Below.refl _ _).grown hg0 (Nat.le_refl _) (by simp)
  have r0 := cell_kept hk0 p0
  have r1 := cell_kept hk0 p1
  rw [hz1] at hrg0 ⊢
  go_loopw [5] (fun _ wr => ∃ (L : List (Int × Int)) (cnt : Nat), RngU wr b (w.heap.size + 1) n U L cnt ∧ (∀ e ∈ U, e ∉ L → e = (x, y) ∨ ¬(x ≤ e.1 ∧ e.2 ≤ y)) ∧ wr.cell? ⟨w.heap.size, 0, none⟩ = some (.int .i64 x) ∧ wr.cell? ⟨w.heap.size, 1, none⟩ = some (.int .i64 y) ∧ Below w.heap.size w wr) (fun _ wr => wr.rangeLeft b (w.heap.size + 1))
  case atStart => exact ⟨U, _, hrg0, fun e he hn => absurd he hn, r0, r1, hb0⟩
  case round =>
    obtain ⟨L, cnt, hrg, hall, q0, q1, hb⟩ := hrel
    have Hall := Lib.hid hall
    have Hrg := Lib.hid hrg
    clear hall hrg r0 r1 hk0 hrg0 p0 p1 hg0 hs0 hb0
    go_wp2_with (first
      | (at_next; refine wpList_nextU _ rfl _ rfl b (w.heap.size + 1) n U L cnt rfl Hrg.out ?_ ?_))
    · intro hL
      have hin : innB U (x, y) = true := innB_iff.2 fun e he hne hh => by
        rcases Hall.out e he (by rw [hL]; simp) with e1 | e1
        · exact hne e1
        · exact e1 hh
      have Hin := Lib.hid hin
      have Hb := Lib.hid hb
      clear hin hb
      go_wp2
      go_ret
      exact ⟨ret_bool Hin.out.symm, Hb.out⟩
    · intro u v c wn cnt' hmL hmU hrg1 hlt hg1 hs1 hen
      have hgr : ∀ k, some (w.heap.size + 1) = some k → w.heap.size ≤ k := fun k hk => by cases hk; omega
      have hbn : Below w.heap.size w wn := hb.grown hg1 hb.size hgr
      have s0 : wn.cell? ⟨w.heap.size, 0, none⟩ = some (.int .i64 x) := (hg1.cell q0 (by simp))
      have s1 : wn.cell? ⟨w.heap.size, 1, none⟩ = some (.int .i64 y) := (hg1.cell q1 (by simp))
      have hwn : w.heap.size < wn.heap.size := World.block_lt_of_cell? wn _ s0
      have HmU := Lib.hid hmU
      have hbk : b ≠ w.heap.size := by omega
      have hrg2 := hrg1.kept (World.grownBy_alloc wn (.cells #[.int .i64 u, .int .i64 v] 49) none) (by simp) (by simp)
      have hb2 := hbn.alloc hbn.size (.cells #[.int .i64 u, .int .i64 v] 49)
      have t0 : (wn.alloc (.cells #[.int .i64 u, .int .i64 v] 49)).cell? ⟨w.heap.size, 0, none⟩ = some (.int .i64 x) := cell_kept ((Below.refl wn.heap.size wn).alloc (Nat.le_refl _) _) s0
      have t1 : (wn.alloc (.cells #[.int .i64 u, .int .i64 v] 49)).cell? ⟨w.heap.size, 1, none⟩ = some (.int .i64 y) := cell_kept ((Below.refl wn.heap.size wn).alloc (Nat.le_refl _) _) s1
      have hno : (u, v) ≠ (x, y) → (x ≤ u ∧ v ≤ y) → innB U (x, y) = false := fun hne hh => by
        cases hi : innB U (x, y)
        · rfl
        · exact absurd hh (innB_iff.1 hi (u, v) HmU.out hne)
      have hgo : ((u, v) = (x, y) ∨ ¬(x ≤ u ∧ v ≤ y)) → ∀ e ∈ U, e ∉ offU L (u, v) → e = (x, y) ∨ ¬(x ≤ e.1 ∧ e.2 ≤ y) := fun hh e he hn => by
        by_cases e1 : e = (u, v)
        · rw [e1]; exact hh
        · exact Hall.out e he fun hx => hn (mem_off.2 ⟨hx, e1⟩)
      have Hno := Lib.hid hno
      have Hgo := Lib.hid hgo
      have Hrg2 := Lib.hid hrg2
      have Hb2 := Lib.hid hb2
      have hms : (wn.alloc (.cells #[.int .i64 u, .int .i64 v] 49)).rangeLeft b (w.heap.size + 1) < wr.rangeLeft b (w.heap.size + 1) := by rw [hrg2.left_eq, Hrg.out.left_eq]; exact hlt
      have Hms := Lib.hid hms
      clear hno hgo hrg2 hb2 hmL hmU hrg1 hlt hg1 hs1 hb hbn hms q0 q1 hgr
      by_cases hx : u = x
      · subst hx
        by_cases hy : v = y
        · subst hy
          have hng := Hgo.out (.inl rfl)
          have Hng := Lib.hid hng
          clear hng
          go_wp2
          go_roundw
          case rel => exact ⟨_, _, Hrg2.out, Hng.out, t0, t1, Hb2.out⟩
          case measure => exact Hms.out
        · have hy' : (v == y) = false := by simpa using hy
          by_cases hle : v ≤ y
          · have hf := Hno.out (fun e => by injection e with e1 e2; exact hy e2) ⟨Int.le_refl _, hle⟩
            have Hf := Lib.hid hf
            clear hf hy
            go_wp2
            go_ret
            exact ⟨ret_bool Hf.out.symm, Hb2.out⟩
          · have hng := Hgo.out (.inr fun hh => hle hh.2)
            have Hng := Lib.hid hng
            clear hng hy
            go_wp2
            go_roundw
            case rel => exact ⟨_, _, Hrg2.out, Hng.out, t0, t1, Hb2.out⟩
            case measure => exact Hms.out
      · have hx' : (u == x) = false := by simpa using hx
        by_cases hle1 : x ≤ u
        · by_cases hle : v ≤ y
          · have hf := Hno.out (fun e => by injection e with e1 e2; exact hx e1) ⟨hle1, hle⟩
            have Hf := Lib.hid hf
            clear hf hx
            go_wp2
            go_ret
            exact ⟨ret_bool Hf.out.symm, Hb2.out⟩
          · have hng := Hgo.out (.inr fun hh => hle hh.2)
            have Hng := Lib.hid hng
            clear hng hx
            go_wp2
            go_roundw
            case rel => exact ⟨_, _, Hrg2.out, Hng.out, t0, t1, Hb2.out⟩
            case measure => exact Hms.out
        · have hng := Hgo.out (.inr fun hh => hle1 hh.1)
          have Hng := Lib.hid hng
          clear hng hx
          go_wp2
          go_roundw
          case rel => exact ⟨_, _, Hrg2.out, Hng.out, t0, t1, Hb2.out⟩
          case measure => exact Hms.out
end Go.Proofs.Ytlnnnjnboknoeaa

/- IsCutW: IsCut: the model's and the program's contract, and the law's walk. -/
namespace Go.Proofs.Ytlnnnjnboknoeaa
open Go.RowKit

theorem spec_IsCut (n : Int) (A : Option Addr) (c B : Nat) (l : List (Int × Int)) (w : World) (h : SlD w B A l) (hB : B ≤ w.heap.size) (hl : l.length ≤ 1048576) (hlc : l.length ≤ c) :
    Calls Try.prog 16 #[.int .i64 n, .slice A l.length c] w fun e w' => e = .returned (.bool (cutB n l)) ∧ Below w.heap.size w w' := by
  go_enter Try.func16, Try.ntmps16
  go_wp2_with fail
  refine (spec_cuGood n A c B l _ h hB hl hlc).mono ?_
  rintro e w1 ⟨rfl, hb⟩
  clear h
  go_wp2
  go_ret
  exact ⟨rfl, hb⟩
theorem impl_IsCut_x (n : Int) (A : Option Addr) (c B : Nat) (l : List (Int × Int)) (w : World) (h : SlD w B A l) (hB : B ≤ w.heap.size) (hl : l.length ≤ 2000000) (hlc : l.length ≤ c) :
    Calls Try.prog 18 #[.int .i64 n, .slice A l.length c] w fun e w' => e = .returned (.bool (cutB n l)) ∧ Below w.heap.size w w' := by
  go_enter Try.func18, Try.ntmps18
  go_wp2_with fail
  refine (impl_PiecesOfCut_x n A c B l _ h hB hl hlc).mono ?_
  rintro e w1 ⟨A1, c1, rs1, rfl, _, hb⟩
  clear h
  go_wp2
  go_ret
  exact ⟨rfl, hb⟩
theorem impl_IsCut (n : Int) (A : Option Addr) (c B : Nat) (l : List (Int × Int)) (w : World) (h : SlD w B A l) (hB : B ≤ w.heap.size) (hl : l.length ≤ 1048576) (hlc : l.length ≤ c) :
    Calls Try.prog 18 #[.int .i64 n, .slice A l.length c] w fun e w' => e = .returned (.bool (cutB n l)) ∧ Below w.heap.size w w' := impl_IsCut_x n A c B l w h hB (by omega) hlc

end Go.Proofs.Ytlnnnjnboknoeaa

/- DelN: slices.Delete of numbers in a row of the call's own. -/
namespace Go.Proofs.Ytlnnnjnboknoeaa
open Go.RowKit

theorem own_frontN {w : World} {base e g n c i : Nat} {xs : List Value} (h : w.ownsRow base e 1 (.slice (some ⟨g, 0, none⟩) n c) n xs) (hi : i ≤ n) : w.ownsRow base e 1 (.slice (some ⟨g, 0, none⟩) i c) i (xs.take i) := by
  rcases h.2 with ⟨h', _⟩ | ⟨g', cap', cur, h', hb, hg, hnc, hcm, hcs, htake⟩
  · simp at h'
  · simp only [Value.slice.injEq, Option.some.injEq, Addr.mk.injEq, and_true, true_and] at h'
    obtain ⟨rfl, rfl⟩ := h'
    refine ⟨by have := h.1; simp; omega, .inr ⟨g, c, cur, rfl, hb, hg, by omega, hcm, hcs, ?_⟩⟩
    rw [← htake, List.take_take]
    congr 1
    omega
theorem own_clearedN {base e g n c : Nat} {xs : List Value} : ∀ (l : List Value) (o : Nat) (w : World), w.ownsRow base e 1 (.slice (some ⟨g, 0, none⟩) n c) n xs → n ≤ o → (w.setCells g o l).ownsRow base e 1 (.slice (some ⟨g, 0, none⟩) n c) n xs ∧ w.grownBy (w.setCells g o l) (some g)
  | [], _, w, h, _ => ⟨h, World.grownBy.refl w _⟩
  | v :: r, o, w, h, ho => by
    obtain ⟨h1, h2⟩ := h.stored o v
    have hx : xs.set o v = xs := List.set_eq_of_length_le (by have := h.1; omega)
    rw [hx] at h1
    obtain ⟨h3, h4⟩ := own_clearedN r (o + 1) (w.setCell ⟨g, o, none⟩ v) h1 (by omega)
    exact ⟨h3, h2.trans h4⟩
theorem own_capN {w : World} {base e g n c : Nat} {xs : List Value} (h : w.ownsRow base e 1 (.slice (some ⟨g, 0, none⟩) n c) n xs) : base ≤ g ∧ n ≤ c ∧ c ≤ maxLen := by
  rcases h.2 with ⟨h', _⟩ | ⟨g', cap, cur, h', hb, hh, hn, hcm, hs, ht⟩
  · cases h'
  · cases h'
    exact ⟨hb, hn, hcm⟩
theorem own_spareN {w : World} {base e g n c : Nat} {xs : List Value} (h : w.ownsRow base e 1 (.slice (some ⟨g, 0, none⟩) n c) n xs) (j : Nat) (hj : j < c) : (w.cell? ⟨g, j, none⟩).isSome = true := by
  rcases h.2 with ⟨h', _⟩ | ⟨g', cap, cur, h', hb, hh, hn, hcm, hs, ht⟩
  · cases h'
  · cases h'
    rw [cell_of_row w g j cur e (0, 0) hh]
    simp
    omega

theorem step_append_runI {ops : Array Oper} {o : Oper} {a : Act} {w : World} {K : Act → World → Prop} {Q : Exit → Act → World → Prop} {E : Prop}
    (hg : o.guard = none) (d x : Operand) (dT sT : TypeId) (hop : o.op = Op.call { callee := Callee.builtin Builtin.append, args := #[d, x], argTypes := #[dT, sT] })
    (v u : Value) (hd : a.eval d = v) (hx : a.eval x = u) {v' : Value} {w' : World} (hr : (Builtin.append_ #[dT, sT] o.type #[v, u]).run Try.prog w = .ok v' w') (hK : K (a.put o.dst v') w') :
    if Region.wanted o (yielded ops a.tmps) = true then Oper.wp Try.prog o a w K Q else E := by
  have hw : Region.wanted o (yielded ops a.tmps) = true := by simp [Region.wanted, hg]
  rw [if_pos hw]
  unfold Oper.wp
  simp [execOp, hop, resolve, invoke, builtin, hd, hx, hr, Result.andThen]
  exact hK

set_option maxHeartbeats 3200000 in
set_option maxRecDepth 100000 in
/-- the numbers from i up to j go -/
theorem slices_DeleteI (base g n c i j : Nat) (L : List Int) (w : World) (ho : w.ownsRow base 3 1 (.slice (some ⟨g, 0, none⟩) n c) n (ics L)) (hL : L.length = n) (hij : i ≤ j) (hj : j < n) (hi0 : 0 < i) (hn : n ≤ 1000) (hbw : base ≤ w.heap.size) :
    Calls Try.prog 115 #[.slice (some ⟨g, 0, none⟩) n c, .int .i64 i, .int .i64 j] w fun e w' =>
      e = .returned (.slice (some ⟨g, 0, none⟩) (n - (j - i)) c) ∧ w'.ownsRow base 3 1 (.slice (some ⟨g, 0, none⟩) (n - (j - i)) c) (n - (j - i)) (ics (L.take i ++ L.drop j)) ∧ w.grownBy w' (some g) := by
  obtain ⟨hb, hnc, hcm⟩ := own_capN ho
  by_cases hx : i = j
  · subst hx
    have e1 : n - (i - i) = n := by omega
    rw [e1]
    have hres : w.ownsRow base 3 1 (.slice (some ⟨g, 0, none⟩) n c) n (ics (L.take i ++ L.drop i)) := by rw [List.take_append_drop]; exact ho
    have Hres := Lib.hid hres
    have i1 : (i : Int) ≤ (n : Int) := by omega
    have i2 : (0 : Int) ≤ (i : Int) := by omega
    have i3 : (n : Int) ≤ (c : Int) := by omega
    have i4 : ¬ n = i := by omega
    clear ho hres e1
    go_enter Try.func115, Try.ntmps115
    go_wp2
    go_ret
    exact ⟨rfl, Hres.out, World.grownBy.refl _ _⟩
  · have hlt : i < j := by omega
    have mixed : Try.prog.follows .mixedOrders = true := by kernel_rfl
    have hu : Try.prog.underlying 35 = some (.slice 3) := Try.underlying35
    obtain ⟨i0, hi0', hz0, hzs, hzb⟩ := info_parts infoI
    have hl : (ics L).length = n := by rw [ics_length, hL]
    have hcs : ∀ k u, (ics L)[k]? = some u → w.cell? ⟨g, k, none⟩ = some u := fun k u hu => by
      have hk := (List.getElem?_eq_some_iff.1 hu).1
      rw [ho.cellAt k (by omega)]
      exact hu
    have hone : ∀ u ∈ ics L, u.oneCell' = true := fun u hu => one_ics u hu
    obtain ⟨p, hp⟩ : ∃ p, p = i + (n - j) := ⟨_, rfl⟩
    have hpn : n - (j - i) = p := by omega
    have hsrc : Src Try.prog i0.size 35 (.slice (some ⟨g, j, none⟩) (n - j) (c - j)) (n - j) ((ics L).drop j) w.drew := by
      rw [hzs]
      exact Src.ofSlice w.drew hu ⟨g, j, none⟩ (n - j) (c - j) ((ics L).drop j) (by rw [List.length_drop, hl]; omega) (fun k u hk => by
        rw [Addr.add_lit]
        rw [List.getElem?_drop] at hk
        exact hcs _ u hk) (fun u hu => hone u (List.mem_of_mem_drop hu))
    have hdl : ((ics L).drop j).length = n - j := by rw [List.length_drop, hl]
    have hrun : ∀ ty, (Builtin.append_ #[35, 35] ty #[.slice (some ⟨g, 0, none⟩) i c, .slice (some ⟨g, j, none⟩) (n - j) (c - j)]).run Try.prog w.drew = .ok (.slice (some ⟨g, 0, none⟩) p c) (w.drew.setCells g i ((ics L).drop j)) := fun ty => by
      have h := run_append_room_src (P := Try.prog) (w := w.drew) 35 35 ty 3 i0 hu hi0' g 0 i c (.slice (some ⟨g, j, none⟩) (n - j) (c - j)) (n - j) ((ics L).drop j) hsrc (by omega)
        (fun k hk => by rw [hzs]; exact own_spareN ho _ (by omega)) (fun k hk => by rw [hzs]; exact ho.frozenAt _)
      rw [hzs] at h
      rw [hp]
      simpa using h
    have o1 : (w.drew.setCells g i ((ics L).drop j)).ownsRow base 3 1 (.slice (some ⟨g, 0, none⟩) n c) n (setM (ics L) i ((ics L).drop j)) := own_setM _ _ _ w.drew ho
    have b1 : w.grownBy (w.drew.setCells g i ((ics L).drop j)) (some g) := by
      have key : ∀ (vs : List Value) (o : Nat) (w' : World) (xs : List Value), w'.ownsRow base 3 1 (.slice (some ⟨g, 0, none⟩) n c) n xs → w'.grownBy (w'.setCells g o vs) (some g) := by
        intro vs
        induction vs with
        | nil => intro o w' xs _; exact World.grownBy.refl w' _
        | cons v vs ih =>
          intro o w' xs h
          obtain ⟨h1, h2⟩ := h.stored o v
          exact h2.trans (ih (o + 1) _ _ h1)
      have h2 : w.grownBy w.drew (some g) := ⟨rfl, rfl, rfl, Nat.le_refl _, fun _ _ _ => rfl⟩
      exact h2.trans (key _ _ w.drew _ ho)
    obtain ⟨W1, hW1⟩ : ∃ W1, W1 = w.drew.setCells g i ((ics L).drop j) := ⟨_, rfl⟩
    rw [← hW1] at hrun o1 b1
    have zeroI : ∀ w : World, (zeroValue 3).run Try.prog w = .ok (.int .i64 0) w := fun w => by kernel_rfl
    have hclear := fun ty => Lib.run_clear_slice (P := Try.prog) W1 35 3 ty (.int .i64 0) hu zeroI rfl rfl g p (n - p) (c - p) (by omega) (fun k hk => own_spareN o1 _ (by omega)) (fun k hk => o1.frozenAt _)
    obtain ⟨o2, b2⟩ := own_clearedN (List.replicate (n - p) (.int .i64 0)) p W1 (own_frontN o1 (show p ≤ n by omega)) (Nat.le_refl _)
    have hlist : (setM (ics L) i ((ics L).drop j)).take p = ics (L.take i ++ L.drop j) := by
      rw [setM_eq _ _ _ (by rw [hdl, hl]; omega)]
      have e1 : ((ics L).take i ++ (ics L).drop j).length = p := by rw [List.length_append, hdl, List.length_take, hl]; omega
      rw [List.take_left' e1]
      simp [ics]
    rw [hlist] at o2
    have Hres := Lib.hid (And.intro o2 (b1.trans b2))
    have i1 : (i : Int) ≤ (j : Int) := by omega
    have i2 : (0 : Int) ≤ (i : Int) := by omega
    have i3 : (n : Int) ≤ (c : Int) := by omega
    have i4 : (j : Int) ≤ (n : Int) := by omega
    have i5 : ¬ c = j := by omega
    have i6 : (i : Int) ≤ (c : Int) := by omega
    have i7 : ¬ (i : Int) = (j : Int) := by omega
    have i8 : (p : Int) ≤ (n : Int) := by omega
    have i9 : ¬ c = p := by omega
    have i10 : ¬ n = i := by omega
    have i11 : (0 : Int) ≤ (j : Int) := by omega
    rw [hpn]
    clear ho hsrc hcs hone hdl o1 b1 o2 b2 hlist hW1 hl hpn hp hL
    go_enter Try.func115, Try.ntmps115
    go_wp2
    go_region_law_o (refine step_append_runI rfl _ _ 35 35 rfl (.slice (some ⟨g, 0, none⟩) i c) (.slice (some ⟨g, j, none⟩) (n - j) (c - j)) (by simp [Act.eval, Act.put]) (by simp [Act.eval, Act.put]) (hrun _) ?_)
    go_wp2
    go_ret
    exact ⟨rfl, Hres.out⟩
end Go.Proofs.Ytlnnnjnboknoeaa

/- SidI: The sides of a triangulation's triangles, as a set: the program's sidesOf. -/
namespace Go.Proofs.Ytlnnnjnboknoeaa
open Go.RowKit

/-- the first t sides of the polygon -/
def sdA (n : Nat) (i : Nat) : Int × Int := if i + 1 = n then (0, (i : Int)) else ((i : Int), (i : Int) + 1)
def sdL (n t : Nat) : List (Int × Int) := (List.range t).map (sdA n)
theorem sdL_succ (n t : Nat) : sdL n (t + 1) = sdL n t ++ [sdA n t] := by simp [sdL, List.range_succ]
theorem sdL_mem {n : Nat} {x y : Int} (hn : 3 ≤ n) (hx : 0 ≤ x) (hxy : x < y) (hy : y < n) : (x, y) ∈ sdL n n ↔ y = x + 1 ∨ (x = 0 ∧ y = (n : Int) - 1) := by
  unfold sdL
  rw [List.mem_map]
  constructor
  · rintro ⟨i, hi, e⟩
    rw [List.mem_range] at hi
    unfold sdA at e
    split at e
    · injection e with e1 e2
      right; omega
    · injection e with e1 e2
      left; omega
  · rintro (h | ⟨h1, h2⟩)
    · obtain ⟨i, rfl⟩ := Int.eq_ofNat_of_zero_le hx
      refine ⟨i, List.mem_range.2 (by omega), ?_⟩
      unfold sdA
      rw [if_neg (by omega), h]
    · refine ⟨n - 1, List.mem_range.2 (by omega), ?_⟩
      unfold sdA
      rw [if_pos (by omega), h1, h2]
      congr 1
      omega
theorem sides_jd {n : Nat} {l : List (Int × Int)} {x y : Int} (hn : 3 ≤ n) (hx : 0 ≤ x) (hxy : x < y) (hy : y < n) : ((x, y) ∈ sdL n n ++ l) ↔ Jd n l x y := by
  rw [List.mem_append, sdL_mem hn hx hxy hy]
  unfold Jd
  constructor
  · rintro ((h | h) | h)
    · exact .inl h
    · exact .inr (.inl h)
    · exact .inr (.inr h)
  · rintro (h | h | h)
    · exact .inl (.inl h)
    · exact .inl (.inr h)
    · exact .inr h

theorem sd_join {n t : Nat} (ht : t < n) : min (t : Int) (((t : Int) + 1) % (n : Int)) = (sdA n t).1 ∧ max (t : Int) (((t : Int) + 1) % (n : Int)) = (sdA n t).2 := by
  unfold sdA
  by_cases h : t + 1 = n
  · have e : ((t : Int) + 1) % (n : Int) = 0 := by
      rw [show (t : Int) + 1 = (n : Int) by omega]; exact Int.emod_self
    rw [if_pos h, e]
    dsimp only
    omega
  · have e : ((t : Int) + 1) % (n : Int) = (t : Int) + 1 := Int.emod_eq_of_lt (by omega) (by omega)
    rw [if_neg h, e]
    dsimp only
    omega
theorem sdA_small {n t : Nat} (ht : t < n) (hn : n ≤ 12) : (0 ≤ (sdA n t).1 ∧ (sdA n t).1 ≤ 12) ∧ (0 ≤ (sdA n t).2 ∧ (sdA n t).2 ≤ 12) := by
  unfold sdA
  split <;> (dsimp only; omega)
theorem wf_small {x : Int} (h : -1000 ≤ x ∧ x ≤ 1000) : (Lit.int .i64 x).wf = true := WalkArith.wf_i64 (by omega)

end Go.Proofs.Ytlnnnjnboknoeaa

/- CountWithC: The walk of CountWith's law, out of the contracts of the model's function and of the program's. -/
namespace Go.Proofs.Ytlnnnjnboknoeaa
open Go.RowKit

set_option maxHeartbeats 3200000 in
theorem WCountWith.core (w : World) (a0 : Int) (A1 : Option Addr) (c1 : Nat) (l1 : List (Int × Int))
    (h1 : SlD w w.heap.size A1 l1) (hm1 : l1.length ≤ c1) (hx1 : c1 ≤ maxLen)
    (r0 : Int) (r1 : Bool) (hs : Hid (∀ (A1 : Option Addr) (c1 : Nat) (w : World), SlD w w.heap.size A1 l1 → l1.length ≤ 1048576 → l1.length ≤ c1 → Calls Try.prog 49 #[.int .i64 a0, .slice A1 l1.length c1] w (fun e w' => e = .returned (.tuple #[.int .i64 r0, .bool r1]) ∧ Below w.heap.size w w')))
    (hi : Hid (∀ (A1 : Option Addr) (c1 : Nat) (w : World), SlD w w.heap.size A1 l1 → l1.length ≤ 1048576 → l1.length ≤ c1 → Calls Try.prog 50 #[.int .i64 a0, .slice A1 l1.length c1] w (fun e w' => e = .returned (.tuple #[.int .i64 r0, .bool r1]) ∧ Below w.heap.size w w'))) :
    Calls Try.prog 14 #[.int .i64 a0, .slice A1 l1.length c1] w fun e w' => e = .returned (.bool true) ∧ Below w.heap.size w w' := by
  by_cases hl1 : l1.length ≤ 1048576
  · have hzero := Below.refl w.heap.size w
    have e1 : (if l1.length ≤ 1048576 then 1048576 - (l1.length : Int) else -1) = 1048576 - (l1.length : Int) := if_pos hl1
    have hz := laws_szDiagonalS A1 l1.length c1 w (by omega)
    rw [e1] at hz
    have Hz := Lib.hid hz
    clear e1 hz
    go_enter Try.func14, Try.ntmps14
    go_wp2_with fail
    refine Hz.out.mono ?_
    rintro e wz ⟨rfl, rfl⟩
    clear Hz
    go_wp2_with fail
    have hd := hzero
    clear hzero
    refine (laws_toDiagonalS A1 c1 w.heap.size l1 _ (h1.below hd) hd.size hl1).mono ?_
    rintro e whT1 ⟨rfl, hT1, hb⟩
    replace hd := below_kept hd (Nat.le_refl _) hb
    clear hb
    go_wp2_with fail
    refine (hs.out _ _ _ (SlD.of_own hT1) hl1 (Nat.le_refl _)).mono ?_
    rintro e whW ⟨rfl, hb⟩
    replace hd := below_kept hd (Nat.le_refl _) hb
    clear hb
    clear hT1
    go_wp2_with fail
    refine (laws_toDiagonalS A1 c1 w.heap.size l1 _ (h1.below hd) hd.size hl1).mono ?_
    rintro e whX1 ⟨rfl, hX1, hb⟩
    replace hd := below_kept hd (Nat.le_refl _) hb
    clear hb
    go_wp2_with fail
    refine (hi.out _ _ _ (SlD.of_own hX1) hl1 (Nat.le_refl _)).mono ?_
    rintro e whG ⟨rfl, hb⟩
    replace hX1 := own_kept hX1 hb
    replace hd := below_kept hd (Nat.le_refl _) hb
    clear hb
    go_wp2_with fail
    refine (laws_toDiagonalS A1 c1 w.heap.size l1 _ (h1.below hd) hd.size hl1).mono ?_
    rintro e whY1 ⟨rfl, hY1, hb⟩
    replace hX1 := own_kept hX1 hb
    replace hd := below_kept hd (Nat.le_refl _) hb
    clear hb
    go_wp2_with fail
    refine (laws_eqDiagonalS _ _ _ _ _ _ _ _ (SlD.of_own hX1) (SlD.of_own hY1) (Nat.le_refl _) (Nat.le_refl _) (by omega)).mono ?_
    rintro e wq1 ⟨rfl, hb⟩
    replace hX1 := own_kept hX1 hb
    replace hY1 := own_kept hY1 hb
    replace hd := below_kept hd (Nat.le_refl _) hb
    clear hb
    go_wp2_with fail
    clear hY1
    clear hs hi hX1 h1
    go_wp2
    go_ret
    exact ⟨rfl, hd⟩
  · have hdd := Below.refl w.heap.size w
    have e1 : (if l1.length ≤ 1048576 then 1048576 - (l1.length : Int) else -1) = -1 := if_neg hl1
    have hz := laws_szDiagonalS A1 l1.length c1 w (by omega)
    rw [e1] at hz
    have Hz := Lib.hid hz
    clear e1 hz h1 hs hi
    go_enter Try.func14, Try.ntmps14
    go_wp2_with fail
    refine Hz.out.mono ?_
    rintro e wz ⟨rfl, rfl⟩
    clear Hz
    go_wp2
    go_ret
    exact ⟨rfl, hdd⟩

end Go.Proofs.Ytlnnnjnboknoeaa

/- CountWithW: CountWith: the model's and the program's contract, and the law's walk. -/
namespace Go.Proofs.Ytlnnnjnboknoeaa
open Go.RowKit

set_option maxRecDepth 100000 in
set_option maxHeartbeats 3200000 in
theorem spec_CountWith (n : Int) (A : Option Addr) (c B : Nat) (l : List (Int × Int)) (w : World) (h : SlD w B A l) (hB : B ≤ w.heap.size) (hl : l.length ≤ 1048576) (hlc : l.length ≤ c) :
    Calls Try.prog 49 #[.int .i64 n, .slice A l.length c] w (CfE n l w) := by
  have HG := Lib.hid (spec_IsCut n A c B l w h hB hl hlc)
  cases hc : cutB n l
  · rw [hc] at HG
    have HE := Lib.hid fun w' (hb : Below w.heap.size w w') => cfE_no hc hb
    clear h hc
    go_enter Try.func49, Try.ntmps49
    go_wp2_with fail
    refine HG.out.mono ?_
    rintro e w1 ⟨rfl, hb1⟩
    have HF := Lib.hid (HE.out _ hb1)
    go_wp2
    go_ret2
    exact HF.out
  · rw [hc] at HG
    obtain ⟨h3, h12, h9⟩ := cutB_len hc
    obtain ⟨m, rfl⟩ := Int.eq_ofNat_of_zero_le (show 0 ≤ n by omega)
    have HP0 := fun w1 (hb : Below w.heap.size w w1) => spec_SizesOfCut (m : Int) A c B l w1 (h.below (hb.mono hB)) (Nat.le_trans hB hb.size) hl hlc
    obtain ⟨c1, c2, c3⟩ := cut_lens hc
    have HE := Lib.hid fun w' v h2 (hb : Below w.heap.size w w') => cfE_yes (v := v) hc h2 hb
    obtain ⟨L, hL, hp⟩ := sz_nat hc
    rw [hc, szR_yes hc, hL] at HP0
    have HP := Lib.hid HP0
    have d1 : L.sum = (m - 2) + 2 * L.length := by rw [hp.sum_nat, hp.length_eq]; exact c1
    have d3 : ∀ a ∈ L, 3 ≤ a ∧ a ≤ 12 := fun a ha => c3 a (hp.mem_iff.1 ha)
    have Hbd := Lib.hid fun k => prodN_le d3 d1 (by omega) k
    have Hd3 := Lib.hid d3
    have Hpp := Lib.hid (prodN_perm hp)
    obtain ⟨K, hK⟩ : ∃ K, (L.map fun (a : Nat) => (a : Int)).length = K := ⟨_, rfl⟩
    have hK10 : K ≤ 10 := by rw [← hK, List.length_map, hp.length_eq, c2]; omega
    have HK := Lib.hid hK
    unfold RetI at HP
    rw [hK] at HP
    clear h hc hL hp hK c1 c2 c3 d1 d3 HP0
    go_enter Try.func49, Try.ntmps49
    go_wp2_with fail
    refine HG.out.mono ?_
    rintro e w0 ⟨rfl, hb0⟩
    go_wp2_with fail
    refine (HP.out _ hb0).mono ?_
    rintro e w1 ⟨A1, c1, rfl, o1, hb1⟩
    have S1 := Lib.hid (show SlI w1 w1.heap.size A1 (L.map fun (a : Nat) => (a : Int)) from by have := o1; rw [← HK.out] at this; exact SlI.of_own this)
    have B1 := Lib.hid (below_kept hb0 (Nat.le_refl _) hb1)
    clear o1 hb1 hb0
    go_wp2
    go_loop [6, 10, 23] (fun ov _ iv => ∃ k : Nat, k ≤ K ∧ iv = .int .i64 k ∧ ov = .int .i64 (prodN (L.take k))) (fun _ _ iv => K - (intOf iv).toNat)
    case atStart => exact ⟨0, Nat.zero_le _, rfl, rfl⟩
    case round =>
      obtain ⟨k, hk, rfl, rfl⟩ := hrel
      by_cases hlt : k < K
      · obtain ⟨g, off, rfl, hgB, hcg⟩ := S1.out (by rw [HK.out]; omega)
        have y0 := hcg k (by rw [HK.out]; exact hlt)
        have k1 : (k : Int) < (K : Int) := by omega
        have hkl : k < L.length := by have := HK.out; rw [List.length_map] at this; omega
        have hnx := prodN_take L k hkl
        have hm := Hd3.out _ (List.getElem_mem hkl)
        have he : (L.map fun (a : Nat) => (a : Int)).getD k 0 = (L[k] : Int) := by simp [hkl]
        rw [he] at y0
        obtain ⟨q, hq⟩ : ∃ q, L[k] = q := ⟨_, rfl⟩
        rw [hq] at y0 hnx hm
        have hb2 := cntT_bd (n := q) (by omega)
        have hrun := cf_run (Hbd.out k) hb2
        have Hcall := Lib.hid fun w => spec_caCount q w (by omega) (by omega)
        have Hnx := Lib.hid hnx
        have hpb := Hbd.out k
        have Hrun := Lib.hid hrun
        clear hcg he hq hnx hrun
        generalize prodN (L.take k) = p at *
        generalize cntT q = t at *
        go_wp2_with fail
        refine (Hcall.out _).mono ?_
        rintro e w3 ⟨rfl, rfl⟩
        go_wp2
        go_round
        case rel => exact ⟨k + 1, by omega, by go_num, by
          show Value.int .i64 (wrap64 ((p : Int) * (t : Int))) = _
          rw [Hrun.out, Hnx.out]⟩
        case measure => simp [intOf]; omega
      · obtain rfl : k = K := by omega
        have ht : L.take k = L := List.take_of_length_le (by have := HK.out; rw [List.length_map] at this; omega)
        rw [ht]
        have HF := Lib.hid (HE.out w1 _ Hpp.out.symm B1.out)
        clear ht
        generalize prodN L = v at *
        go_wp2
        go_ret2
        exact HF.out

def slN : Value → Nat
  | .slice _ n _ => n
  | _ => 0
/-- what holds of a set of bases that are not cut off yet, of the corners that are left and of the number counted -/
structure CwI (w : World) (b g n q : Nat) (l U : List (Int × Int)) (k : Nat) (wr : World) : Prop where
  sub : ∀ e ∈ U, e ∈ basesC n l
  dn : Dn n l U
  len : (rst n l U).length = k
  row : wr.ownsRow b 3 1 (.slice (some ⟨g, 0, none⟩) k n) k (ics (rst n l U))
  bel : Below w.heap.size w wr
section
variable {w : World} {b g n q k : Nat} {l U : List (Int × Int)} {wr w' : World}
theorem CwI.kept (h : CwI w b g n q l U k wr) (hb : Below wr.heap.size wr w') : CwI w b g n q l U k w' := ⟨h.sub, h.dn, h.len, own_kept h.row hb, below_kept h.bel (Nat.le_refl _) hb⟩
theorem CwI.far {row : Option Nat} (h : CwI w b g n q l U k wr) (hg : wr.grownBy w' row) (hne : some g ≠ row) (hr : ∀ k, row = some k → w.heap.size ≤ k) : CwI w b g n q l U k w' :=
  ⟨h.sub, h.dn, h.len, own_far h.row hg (fun k hk => by cases hk; exact hne), below_grown h.bel hg (Nat.le_refl _) hr⟩
end
theorem rng_drew {w : World} {b r n cnt : Nat} {U L : List (Int × Int)} (h : RngU w b r n U L cnt) (z : Nat) : RngU (w.drewN z) b r n U L cnt := h.below (below_drewN (Below.refl _ _) z)

set_option maxRecDepth 100000 in
set_option maxHeartbeats 6400000 in
theorem impl_countWith (n : Nat) (A : Option Addr) (c B : Nat) (l : List (Int × Int)) (w : World) (h : SlD w B A l) (hB : B ≤ w.heap.size) (hc : cutB (n : Int) l = true) :
    Calls Try.prog 86 #[.int .i64 n, .slice A l.length c] w fun e w' => e = .returned (.int .i64 ((prodN (lnN (pcL n l)) : Nat) : Int)) ∧ Below w.heap.size w w' := by
  have hmm : ∀ (w : World), (Instr.makeMap 105 none).run Try.prog w = .ok (.map (some w.heap.size)) (w.alloc (.map #[] 0)) := fun w => by
    simp [Instr.makeMap, run_underlying Try.underlying105]
  obtain ⟨n3, n12, ho, hn, hnc, hnd, h9⟩ := cut_nc hc
  obtain ⟨q, hq⟩ : ∃ q, l.length = q := ⟨_, rfl⟩
  have q9 : q ≤ 9 := by omega
  have hwf : ∀ d ∈ basesC n l, (0 ≤ d.1 ∧ d.1 ≤ 12) ∧ (0 ≤ d.2 ∧ d.2 ≤ 12) := fun d hd => by have := base_in hnc n3 hd; omega
  have H := Lib.hid h
  have Hc := Lib.hid hc
  have Hnd := Lib.hid hnd
  have Hwf := Lib.hid hwf
  have Hq := Lib.hid hq
  have wf0 := wf_small (x := 0) (by omega)
  have wfn := wf_small (x := (n : Int) - 1) (by omega)
  have n1 : (1 : Int) ≤ (n : Int) := by omega
  have n2 : (n : Int) ≤ 12 := by omega
  rw [hq]
  clear h hc hnd hwf hq ho hn hnc h9
  go_enter Try.func86, Try.ntmps86
  go_wp2_with (refine wpList_insertU _ rfl _ _ _ rfl w.heap.size 0 [] rfl (SetU.made w) (by omega) 0 ((n : Int) - 1) rfl rfl wf0 wfn (by simp) ?_; intro w1 hS1 hg1)
  have hb1 : Below w.heap.size w w1 := below_grown ((Below.refl _ _).alloc (Nat.le_refl _) _) hg1 (Nat.le_refl _) (fun k hk => by injection hk with hk; omega)
  have HS1 := Lib.hid hS1
  have Hb1 := Lib.hid hb1
  clear hS1 hg1 hb1
  go_wp2
  go_loopw [7, 20] (fun _ i wr => ∃ k : Nat, k ≤ q ∧ i = .int .i64 k ∧ SetU wr w.heap.size (1 + k) ((0, (n : Int) - 1) :: l.take k) ∧ Below w.heap.size w wr) (fun _ i _ => q - (intOf i).toNat)
  case atStart => exact ⟨0, Nat.zero_le _, rfl, HS1.out, Hb1.out⟩
  case round =>
    clear HS1 Hb1
    obtain ⟨k, hk, rfl, hS, hb⟩ := hrel
    have hsz := hb.size
    by_cases hlt : k < q
    · have hkl : k < l.length := by rw [Hq.out]; exact hlt
      obtain ⟨b0, off, rfl, hbB, hc⟩ := H.out.below (hb.mono hB) (by omega)
      obtain ⟨g0, g1⟩ := hc k hkl
      have i0 : (0 : Int) ≤ (k : Int) := by omega
      have i1 : (k : Int) < (q : Int) := by omega
      have e : l.getD k (0, 0) = l[k] := by simp [hkl]
      have hw := Hwf.out (l.getD k (0, 0)) (by rw [e]; exact List.mem_cons_of_mem _ (List.getElem_mem hkl))
      have hst : (0, (n : Int) - 1) :: l.take (k + 1) = ((0, (n : Int) - 1) :: l.take k) ++ [l.getD k (0, 0)] := by
        rw [List.take_succ_eq_append_getElem hkl]
        simp [hkl]
      have hnew : l.getD k (0, 0) ∉ (0, (n : Int) - 1) :: l.take k := fun hx => by
        have h2 : ((0, (n : Int) - 1) :: l.take (k + 1)).Nodup := Hnd.out.sublist (List.Sublist.cons_cons _ (List.take_sublist _ _))
        rw [hst] at h2
        exact (List.nodup_append.1 h2).2.2 _ hx _ (List.mem_singleton.2 rfl) rfl
      generalize l.getD k (0, 0) = d at *
      obtain ⟨u, v⟩ := d
      dsimp only at g0 g1 hw
      have wu := wf_small (x := u) (by omega)
      have wv := wf_small (x := v) (by omega)
      have hS1 := hS.kept (World.grownBy_alloc wr (.cells #[.int .i64 u, .int .i64 v] 49) none) (by simp)
      have hb1 := hb.alloc hsz (.cells #[.int .i64 u, .int .i64 v] 49)
      have Hst := Lib.hid hst
      clear hc hst hS hb hw e
      go_wp2_with (at_mapUpdate; refine wpList_setU _ rfl _ _ _ rfl w.heap.size (1 + k) ((0, (n : Int) - 1) :: l.take k) rfl hS1 (by omega) u v rfl rfl wu wv hnew ?_; intro w2 hS2 hg2)
      have hb2 := below_grown hb1 hg2 (Nat.le_refl _) (fun k hk => by injection hk with hk; omega)
      rw [← Hst.out] at hS2
      have HS2 := Lib.hid hS2
      have Hb2 := Lib.hid hb2
      clear hS2 hb2 hg2 hS1 hb1 hnew
      go_wp2
      go_roundw
      case rel => exact ⟨k + 1, by omega, by go_num, HS2.out, Hb2.out⟩
      case measure => simp [intOf]; omega
    · obtain rfl : k = q := by omega
      rw [List.take_of_length_le (by rw [Hq.out]; exact Nat.le_refl _)] at hS
      have HS := Lib.hid (show SetU wr w.heap.size (1 + k) (basesC n l) from hS)
      have Hb := Lib.hid hb
      have hbsz := hb.size
      have hslt := hS.lt
      clear hS hb
      go_wp2_with fail
      refine (impl_allCorners n _ (by omega)).mono ?_
      rintro e w2 ⟨rfl, o2, b2⟩
      have hS2 := HS.out.below b2
      have hb2 := below_kept Hb.out (Nat.le_refl _) b2
      obtain ⟨g, hg⟩ : ∃ g, g = wr.heap.size := ⟨_, rfl⟩
      rw [← hg] at o2 hslt ⊢
      have hI : CwI w g g n k l (basesC n l) n w2 := ⟨fun e he => he, fun f hf hU => absurd hf hU, by rw [rst_all, corI_length], by rw [rst_all]; exact o2, hb2⟩
      have HI := Lib.hid hI
      have HS2 := Lib.hid hS2
      have hgsz : w.heap.size ≤ g := by omega
      clear hI hS2 HS Hb b2 o2 hb2 hg hbsz
      go_wp2
      have hu0 : ((1 : Nat) : Int) = ((prodN (donU n l (basesC n l)) : Nat) : Int) := by rw [don_start]; rfl
      have Hu0 := Lib.hid hu0
      clear hu0
      go_loopw [8, 9, 10, 11, 12] (fun rs ct _ _ _ wr => ∃ (U : List (Int × Int)) (x : Nat), rs = .slice (some ⟨g, 0, none⟩) x n ∧ ct = .int .i64 ((prodN (donU n l U) : Nat) : Int) ∧ SetU wr w.heap.size (1 + k) U ∧ CwI w g g n k l U x wr) (fun rs _ _ _ _ _ => slN rs)
      case atStart => exact ⟨basesC n l, n, rfl, by rw [← Hu0.out]; rfl, HS2.out, HI.out⟩
      case round =>
        clear HI HS2 Hu0
        obtain ⟨U, x, rfl, rfl, hS, hI⟩ := hrel
        have HS := Lib.hid hS
        have HI := Lib.hid hI
        have hx12 : x ≤ n := by rw [← hI.len]; exact rst_len n l U
        by_cases hU : U = []
        · subst hU
          have hfin := don_end_prod Hc.out
          have HF := Lib.hid hfin
          have hbel := hI.bel
          clear hfin hS hI
          generalize prodN (donU n l []) = p at *
          go_wp2_with (at_len; refine wpList_lenU _ rfl _ rfl w.heap.size (1 + k) [] rfl HS.out ?_)
          go_wp2
          go_ret
          exact ⟨by rw [HF.out]; rfl, hbel⟩
        · obtain ⟨uN, huN⟩ : ∃ uN, U.length = uN + 1 := ⟨U.length - 1, by have := List.length_pos_iff.2 hU; omega⟩
          have HuN := Lib.hid huN
          have HU := Lib.hid hU
          clear hS hI hU huN
          generalize hp : prodN (donU n l U) = p
          have Hp := Lib.hid hp
          clear hp
          go_wp2_with (first
            | (at_len; refine wpList_lenU _ rfl _ rfl w.heap.size (1 + k) U rfl HS.out ?_; rw [HuN.out])
            | (at_range; refine wpList_rangeU _ rfl _ rfl w.heap.size (1 + k) U rfl HS.out ?_; intro w3 hr3 hg3 hs3))
          go_frame
          have hI3 : CwI w g g n k l U x w3 := HI.out.far hg3 (by simp) (by simp)
          obtain ⟨r, hr⟩ : ∃ r, r = wr.heap.size := ⟨_, rfl⟩
          rw [← hr] at hr3 ⊢
          have hgr : g < r := by rw [hr]; exact (HI.out.row.lt g rfl).2
          have hwr : w.heap.size ≤ r := by rw [hr]; exact HI.out.bel.size
          have HI3 := Lib.hid hI3
          have Hr3 := Lib.hid hr3
          clear hI3 hr3 hg3 hs3 hr HI HS
          go_loopw [8, 9, 10, 11, 12] (fun rs ct _ _ _ wq => ∃ (V L : List (Int × Int)) (y cnt : Nat), rs = .slice (some ⟨g, 0, none⟩) y n ∧ ct = .int .i64 ((prodN (donU n l V) : Nat) : Int) ∧ RngU wq w.heap.size r (1 + k) V L cnt ∧ CwI w g g n k l V y wq ∧ y ≤ x ∧ ((V = U ∧ ∀ e ∈ U, e ∉ L → innB U e = false) ∨ y < x)) (fun _ _ _ _ _ wq => wq.rangeLeft w.heap.size r)
          case atStart => exact ⟨U, U, x, _, rfl, by rw [Hp.out], Hr3.out, HI3.out, Nat.le_refl _, .inl ⟨rfl, fun e he hn => absurd he hn⟩⟩
          case round =>
            clear HI3 Hr3 Hp
            obtain ⟨V, L, y, cnt, rfl, rfl, hrg, hI, hyx, hor⟩ := hrel
            have Hrg := Lib.hid hrg
            have HI := Lib.hid hI
            have Hor := Lib.hid hor
            have hbd := don_bd (U := V) Hc.out
            generalize hpv : prodN (donU n l V) = pv at *
            have Hpv := Lib.hid hpv
            clear hrg hI hor hpv
            go_wp2_with (at_next; refine wpList_nextU _ rfl _ rfl w.heap.size r (1 + k) V L cnt rfl Hrg.out ?_ ?_)
            · intro hL
              have hlt : y < x := by
                rcases Hor.out with ⟨e, hall⟩ | h
                · obtain ⟨d, hd, hi⟩ := inn_some HU.out
                  have := hall d hd (by rw [hL]; simp)
                  rw [hi] at this; cases this
                · exact h
              have Hlt := Lib.hid hlt
              clear hlt hL
              go_wp2
              go_roundw
              case rel => exact ⟨V, y, rfl, by rw [Hpv.out], Hrg.out.set, HI.out⟩
              case measure => exact Hlt.out
            · intro x1 y1 cv wn cnt' hmL hmV hrg1 hlt hg1 hs1 hen
              have hIn : CwI w g g n k l V y wn := HI.out.far hg1 (by simp; omega) (fun k hk => by injection hk with hk; omega)
              obtain ⟨w4, hw4⟩ : ∃ w4, w4 = wn.alloc (.cells #[.int .i64 x1, .int .i64 y1] 49) := ⟨_, rfl⟩
              have hrg4 : RngU w4 w.heap.size r (1 + k) V (offU L (x1, y1)) cnt' := by rw [hw4]; exact hrg1.kept (World.grownBy_alloc wn _ none) (by simp) (by simp)
              have p0 : w4.cell? ⟨wn.heap.size, 0, none⟩ = some (.int .i64 x1) := by rw [hw4]; simp [go_sem]
              have p1 : w4.cell? ⟨wn.heap.size, 1, none⟩ = some (.int .i64 y1) := by rw [hw4]; simp [go_sem]
              have hI4 : CwI w g g n k l V y w4 := by rw [hw4]; exact hIn.kept ((Below.refl _ _).alloc (Nat.le_refl _) _)
              have hgn : g < wn.heap.size := (hIn.row.lt g rfl).2
              have HmV := Lib.hid hmV
              have Hrg4 := Lib.hid hrg4
              have HI4 := Lib.hid hI4
              have Hlt := Lib.hid hlt
              have Hw4 := Lib.hid hw4
              clear hmL hmV hrg1 hlt hg1 hs1 hIn hrg4 hI4 hw4
              go_wp2_with fail
              rw [← Hw4.out]
              refine (impl_isInnermost x1 y1 w.heap.size (1 + k) V _ Hrg4.out.set).mono ?_
              rintro e w5 ⟨rfl, b5⟩
              have q0 := cell_kept b5 p0
              have q1 := cell_kept b5 p1
              have hrg5 := Hrg4.out.below b5
              have hI5 := HI4.out.kept b5
              clear p0 p1 b5 Hrg4 HI4 Hw4 hen
              have Hrg5 := Lib.hid hrg5
              have HI5 := Lib.hid hI5
              obtain ⟨dx, hdx⟩ : ∃ dx, dx = wn.heap.size := ⟨_, rfl⟩
              rw [← hdx] at q0 q1 hgn ⊢
              clear hrg5 hI5 hdx
              cases hi : innB V (x1, y1)
              · have Hi := Lib.hid hi
                clear hi q0 q1
                go_wp2
                go_roundw
                case rel => exact ⟨V, offU L (x1, y1), y, cnt', rfl, by rw [Hpv.out], Hrg5.out, HI5.out, hyx, by
                  rcases Hor.out with ⟨e, hall⟩ | h
                  · refine .inl ⟨e, fun f hf hn => ?_⟩
                    by_cases e1 : f = (x1, y1)
                    · rw [e1, ← e]; exact Hi.out
                    · exact hall f hf fun hx => hn (mem_off.2 ⟨hx, e1⟩)
                  · exact .inr h⟩
                case measure => rw [Hrg5.out.left_eq, Hrg.out.left_eq]; exact Hlt.out
              · obtain ⟨i, j, e1, e2, h1, h2, h3, h4, h5⟩ := rst_ix Hc.out HI5.out.sub HI5.out.dn HmV.out hi
                have hm := pc_bd Hc.out (HI5.out.sub _ HmV.out)
                have hds := prodN_perm (don_step Hnd.out HI5.out.sub HmV.out)
                have hdn := dn_off HI5.out.dn hi
                have hlen := HI5.out.len
                rw [hlen] at h2 h5
                obtain ⟨m, hm'⟩ : ∃ m, (pc n l (x1, y1)).length = m := ⟨_, rfl⟩
                rw [hm'] at hm h3 hds
                have hsl : SlI w5 w5.heap.size (some ⟨g, 0, none⟩) (rst n l V) := by
                  have := HI5.out.row
                  rw [← hlen] at this
                  exact SlI.of_own this
                have Hx := Lib.hid fun z' => slices_IndexI_x (some ⟨g, 0, none⟩) y n w5.heap.size (rst n l V) x1 (w5.drewN z') hlen hsl (by omega)
                have Hy := Lib.hid fun z' => slices_IndexI_x (some ⟨g, 0, none⟩) y n w5.heap.size (rst n l V) y1 (w5.drewN z') hlen hsl (by omega)
                rw [e1] at Hx
                rw [e2] at Hy
                have hcb := cntT_bd (n := m) (by omega)
                have hrun := cf_run hbd hcb
                have em : (j : Int) - (i : Int) + 1 = (m : Int) := by omega
                have Hem := Lib.hid em
                have Hct := Lib.hid fun w => impl_countTriangulations m w (by omega) (by omega)
                have hdel := fun z => slices_DeleteI g g y n (i + 1) j (rst n l V) (w5.drewN z) (own_drewN HI5.out.row z) hlen (by omega) h2 (by omega) (by omega) (by show g ≤ w5.heap.size; exact Nat.le_of_lt (HI5.out.row.lt g rfl).2)
                simp only [h4, show ((i + 1 : Nat) : Int) = (i : Int) + 1 by omega] at hdel
                have Hdel := Lib.hid hdel
                simp only [prodN] at hds
                rw [Hpv.out] at hds
                have Hdn := Lib.hid hdn
                have Hlen := Lib.hid h5
                have hy' : y - (j - (i + 1)) < y := by omega
                have t0 : (0 : Int) ≤ (i : Int) := by omega
                have t1 : (i : Int) ≤ 12 := by omega
                have t2 : (0 : Int) ≤ (j : Int) := by omega
                have t3 : (j : Int) ≤ 12 := by omega
                have t4 : (i : Int) ≤ (j : Int) := by omega
                clear hi e1 e2 h1 h2 h3 h4 h5 hdn hlen hm' hsl em hdel
                generalize cntT m = ct at *
                have Hds := Lib.hid hds
                have Hrun := Lib.hid hrun
                clear hds hrun
                go_wp2
                go_quiet (first | (go_at_call 114; with_reducible exact Calls.quiet_of (Hx.out _)) | (go_at_call 114; with_reducible exact Calls.quiet_of (Hy.out _)))
                rename_i nq
                have q0' : (w5.drewN nq).cell? ⟨dx, 0, none⟩ = some (.int .i64 x1) := q0
                have q1' : (w5.drewN nq).cell? ⟨dx, 1, none⟩ = some (.int .i64 y1) := q1
                have hrg6 := rng_drew Hrg5.out nq
                have hI6 := HI5.out.kept (below_drewN (Below.refl _ _) nq)
                have Hdel2 := Lib.hid (Hdel.out nq)
                have Hrg6 := Lib.hid hrg6
                have HI6 := Lib.hid hI6
                clear hrg6 hI6 q0 q1 Hdel Hx Hy Hrg5 HI5
                generalize w5.drewN nq = w6 at *
                go_wp2_with fail
                rw [Hem.out]
                refine (Hct.out _).mono ?_
                rintro e w7 ⟨rfl, rfl⟩
                go_wp2_with fail
                refine Hdel2.out.mono ?_
                rintro e w8 ⟨rfl, o8, g8⟩
                have hI8 : CwI w g g n k l (offU V (x1, y1)) (y - (j - (i + 1))) w8 := ⟨fun e he => HI6.out.sub e (mem_off.1 he).1, Hdn.out, Hlen.out, o8, below_grown HI6.out.bel g8 (Nat.le_refl _) (fun k hk => by injection hk with hk; omega)⟩
                have hrg8 := Hrg6.out.kept g8 (by simp; omega) (by simp; omega)
                have r0 := g8.cell q0' (by simp; omega)
                have r1 := g8.cell q1' (by simp; omega)
                have HI8 := Lib.hid hI8
                have Hrg8 := Lib.hid hrg8
                clear hI8 hrg8 o8 g8 q0' q1' HI6 Hrg6 Hdel2
                go_wp2_with (at_delete; refine wpList_deleteU _ rfl _ _ rfl w.heap.size r (1 + k) V (offU L (x1, y1)) cnt' rfl Hrg8.out x1 y1 rfl HmV.out ?_; intro w9 cnt9 hrg9 hle9 hg9; simp only [Act.put])
                have hI9 := HI8.out.far hg9 (by simp; omega) (fun k hk => by injection hk with hk; omega)
                have HI9 := Lib.hid hI9
                have Hrg9 := Lib.hid hrg9
                have Hle9 := Lib.hid hle9
                clear hI9 hrg9 hle9 hg9 HI8 Hrg8
                go_wp2
                go_roundw
                case rel => exact ⟨offU V (x1, y1), offU (offU L (x1, y1)) (x1, y1), y - (j - (i + 1)), cnt9, rfl, by
                  show Value.int .i64 (wrap64 ((pv : Int) * (ct : Int))) = _
                  rw [Hrun.out, Hds.out, Nat.mul_comm], Hrg9.out, HI9.out, by omega, .inr (by omega)⟩
                case measure => rw [Hrg9.out.left_eq, Hrg.out.left_eq]; exact Nat.lt_of_le_of_lt Hle9.out Hlt.out

set_option maxRecDepth 100000 in
set_option maxHeartbeats 1600000 in
theorem impl_CountWith (n : Int) (A : Option Addr) (c B : Nat) (l : List (Int × Int)) (w : World) (h : SlD w B A l) (hB : B ≤ w.heap.size) (hl : l.length ≤ 1048576) (hlc : l.length ≤ c) :
    Calls Try.prog 50 #[.int .i64 n, .slice A l.length c] w (CfE n l w) := by
  have HU := Lib.hid (impl_areUncrossed n A c B l w h hB hl hlc)
  cases hp : poB n
  · have hc : cutB n l = false := by unfold cutB; rw [hp]; rfl
    have HE := Lib.hid (cfE_no (w := w) (w' := w) hc (Below.refl _ _))
    clear h hc
    go_enter Try.func50, Try.ntmps50
    go_wp2_with (go_at_call 54; ((with_reducible refine (impl_isPolygon _ _ _ hp).mono ?_); rintro e w' ⟨rfl, rfl⟩))
    go_ret2
    exact HE.out
  · have hcu : cutB n l = uncB n l := by unfold cutB; rw [hp]; rfl
    cases hc : uncB n l
    · rw [hc] at HU hcu
      have HE := Lib.hid fun w' (hb : Below w.heap.size w w') => cfE_no hcu hb
      clear h hc hcu
      go_enter Try.func50, Try.ntmps50
      go_wp2_with (go_at_call 54; ((with_reducible refine (impl_isPolygon _ _ _ hp).mono ?_); rintro e w' ⟨rfl, rfl⟩))
      refine HU.out.mono ?_
      rintro e w1 ⟨rfl, hb1⟩
      have HF := Lib.hid (HE.out _ hb1)
      go_wp2
      go_ret2
      exact HF.out
    · rw [hc] at HU hcu
      have hn := poB_iff.1 hp
      obtain ⟨m, rfl⟩ := Int.eq_ofNat_of_zero_le (show 0 ≤ n by omega)
      have HE := Lib.hid fun w' (hb : Below w.heap.size w w') => cfE_yes hcu rfl hb
      have HC := Lib.hid fun w1 (hb : Below w.heap.size w w1) => impl_countWith m A c B l w1 (h.below (hb.mono hB)) (Nat.le_trans hB hb.size) hcu
      clear h hc hcu
      go_enter Try.func50, Try.ntmps50
      go_wp2_with (go_at_call 54; ((with_reducible refine (impl_isPolygon _ _ _ hp).mono ?_); rintro e w' ⟨rfl, rfl⟩))
      refine HU.out.mono ?_
      rintro e w1 ⟨rfl, hb1⟩
      go_wp2_with fail
      refine (HC.out _ hb1).mono ?_
      rintro e w2 ⟨rfl, hb2⟩
      have HF := Lib.hid (HE.out _ (below_kept hb1 (Nat.le_refl _) hb2))
      clear HE
      go_wp2
      go_ret2
      exact HF.out

theorem WCountWith.walk (w : World) (n : Int) (wn : (Lit.int .i64 n).wf = true) (A : Option Addr) (c : Nat) (l : List (Int × Int)) (h : SlD w w.heap.size A l)
    (hj : l.length ≤ c ∧ c ≤ maxLen ∧ ∀ x ∈ l, (Lit.int .i64 x.1).wf = true ∧ (Lit.int .i64 x.2).wf = true) :
    Calls Try.prog 14 #[.int .i64 n, .slice A l.length c] w fun e w' => e = .returned (.bool true) ∧ Below w.heap.size w w' :=
  WCountWith.core w n A c l h hj.1 hj.2.1 (cfR n l) (cutB n l)
    (Lib.hid fun A c w h hl hlc => spec_CountWith n A c _ l w h (Nat.le_refl _) hl hlc)
    (Lib.hid fun A c w h hl hlc => impl_CountWith n A c _ l w h (Nat.le_refl _) hl hlc)
end Go.Proofs.Ytlnnnjnboknoeaa
