/- CountFiner: the model's and the program's contract, and the law's walk. -/
import Derived.Test.YtlnnnjnboknoeaaSizesOfCutW
import Derived.Test.YtlnnnjnboknoeaaCntT
import Derived.Test.YtlnnnjnboknoeaaCountFinerC
namespace Go.Proofs.Ytlnnnjnboknoeaa
set_option linter.unusedVariables false
open Go.RowKit

/-- the product, over sizes, of how many triangulations polygons of that size have -/
def prodN : List Nat → Nat
  | [] => 1
  | a :: L => cntT a * prodN L
theorem prodN_append (L M : List Nat) : prodN (L ++ M) = prodN L * prodN M := by
  induction L with
  | nil => simp [prodN]
  | cons a L ih => simp only [List.cons_append, prodN, ih, Nat.mul_assoc]
theorem prodN_perm {L M : List Nat} (h : L.Perm M) : prodN L = prodN M := by
  induction h with
  | nil => rfl
  | cons a _ ih => simp only [prodN, ih]
  | swap a b L => simp only [prodN, ← Nat.mul_assoc, Nat.mul_comm (cntT b) (cntT a)]
  | trans _ _ h1 h2 => exact h1.trans h2
theorem cnt_pow : ∀ a : Fin 13, 3 ≤ (a : Nat) → cntT a ≤ 4 ^ ((a : Nat) - 2) := by decide +kernel
theorem cnt_pos : ∀ a : Fin 13, 3 ≤ (a : Nat) → 1 ≤ cntT a := by decide +kernel
theorem prodN_bd (L : List Nat) (h : ∀ a ∈ L, 3 ≤ a ∧ a ≤ 12) : prodN L ≤ 4 ^ ((L.map fun a => a - 2).sum) := by
  induction L with
  | nil => simp [prodN]
  | cons a L ih =>
    have h1 := ih (fun b hb => h b (List.mem_cons_of_mem _ hb))
    have h2 := h a (by simp)
    have h3 := cnt_pow ⟨a, by omega⟩ h2.1
    simp only [prodN, List.map_cons, List.sum_cons, Nat.pow_add]
    exact Nat.mul_le_mul h3 h1
theorem prodN_take (L : List Nat) (k : Nat) (hk : k < L.length) : prodN (L.take (k + 1)) = prodN (L.take k) * cntT L[k] := by
  rw [List.take_succ_eq_append_getElem hk, prodN_append]
  simp [prodN]
theorem sum_take_le (L : List Nat) (k : Nat) : (L.take k).sum ≤ L.sum := by
  conv => rhs; rw [← List.take_append_drop k L, List.sum_append]
  omega
theorem prodN_le {L : List Nat} {S : Nat} (h : ∀ a ∈ L, 3 ≤ a ∧ a ≤ 12) (hS : L.sum = S + 2 * L.length) (hS10 : S ≤ 10) (k : Nat) : prodN (L.take k) ≤ 1048576 := by
  have h1 := prodN_bd (L.take k) (fun a ha => h a (List.mem_of_mem_take ha))
  have h2 : ((L.take k).map fun a => a - 2).sum ≤ (L.map fun a => a - 2).sum := by rw [List.map_take]; exact sum_take_le _ _
  have h3 : ∀ M : List Nat, (∀ a ∈ M, 3 ≤ a ∧ a ≤ 12) → (M.map fun a => a - 2).sum + 2 * M.length = M.sum := by
    intro M
    induction M with
    | nil => intro _; simp
    | cons a M ih =>
      intro hM
      have h4 := ih (fun b hb => hM b (List.mem_cons_of_mem _ hb))
      have h5 := hM a (by simp)
      simp only [List.map_cons, List.sum_cons, List.length_cons]
      omega
  have h4 := h3 L h
  have h5 : 4 ^ (((L.take k).map fun a => a - 2).sum) ≤ 4 ^ 10 := Nat.pow_le_pow_right (by omega) (by omega)
  exact Nat.le_trans h1 h5

/-- the lengths of a cut's pieces -/
def lnN (T : List (List Int)) : List Nat := T.map List.length
theorem cut_lens {n : Nat} {l : List (Int × Int)} (h : cutB (n : Int) l = true) : (lnN (pcL n l)).sum = (n - 2) + 2 * (lnN (pcL n l)).length ∧ (lnN (pcL n l)).length = l.length + 1 ∧ ∀ a ∈ lnN (pcL n l), 3 ≤ a ∧ a ≤ 12 := by
  obtain ⟨n3, n12, ho, hn, hnc, hnd, h9⟩ := cut_nc h
  obtain ⟨Ls, h1, h2, h3⟩ := cuts_some n3 ho _ (Nat.le_refl _) hn
  rw [List.take_length] at h1 h2
  have hp : Ls.Perm (pcL n l) := h2.trans (pcL_perm hnc n3 hnd).symm
  have hs : (lnN (pcL n l)).sum = n + 2 * l.length := by rw [← h3]; exact ((hp.map List.length).sum_nat).symm
  have hl : (lnN (pcL n l)).length = l.length + 1 := by unfold lnN; rw [List.length_map, (pcL_facts h).1]
  refine ⟨by rw [hs, hl]; omega, hl, fun a ha => ?_⟩
  unfold lnN at ha
  obtain ⟨P, hP, rfl⟩ := List.mem_map.1 ha
  have := (pcL_facts h).2 P hP
  omega
theorem sz_nat {n : Nat} {l : List (Int × Int)} (h : cutB (n : Int) l = true) : ∃ L : List Nat, szU (pcL n l) (n - 2) = L.map (fun (a : Nat) => (a : Int)) ∧ L.Perm (lnN (pcL n l)) := by
  refine ⟨(szU (pcL n l) (n - 2)).map Int.toNat, ?_, ?_⟩
  · rw [List.map_map]
    conv => lhs; rw [← List.map_id (szU (pcL n l) (n - 2))]
    refine List.map_congr_left fun x hx => ?_
    obtain ⟨P, _, rfl⟩ := (mem_szU (sz_h3 h)).1 hx
    simp
  · rw [← szU_eq (sz_h3 h)]
    refine ((List.mergeSort_perm _ _).map _).trans ?_
    unfold lens lnN
    rw [List.map_map]
    have e : (pcL n l).map (Int.toNat ∘ fun P : List Int => (P.length : Int)) = (pcL n l).map List.length := List.map_congr_left fun P _ => by simp
    rw [e]

def cfR (n : Int) (l : List (Int × Int)) : Int := if cutB n l = true then (prodN (lnN (pcL n.toNat l)) : Int) else 0
def CfE (n : Int) (l : List (Int × Int)) (w : World) (e : Ending) (w' : World) : Prop := e = .returned (.tuple #[.int .i64 (cfR n l), .bool (cutB n l)]) ∧ Below w.heap.size w w'
theorem cfE_no {n : Int} {l : List (Int × Int)} {w w' : World} (h : cutB n l = false) (hb : Below w.heap.size w w') : CfE n l w (.returned (.tuple #[.int .i64 0, .bool false])) w' := by
  unfold CfE cfR
  rw [h]
  exact ⟨rfl, hb⟩
theorem cfE_yes {n : Nat} {l : List (Int × Int)} {w w' : World} {v : Nat} (h : cutB (n : Int) l = true) (h2 : prodN (lnN (pcL n l)) = v) (hb : Below w.heap.size w w') : CfE (n : Int) l w (.returned (.tuple #[.int .i64 (v : Int), .bool true])) w' := by
  unfold CfE cfR
  rw [h, Int.toNat_natCast, h2]
  exact ⟨rfl, hb⟩
theorem cf_run {p q : Nat} (hp : p ≤ 1048576) (hq : q ≤ 16796) : wrap64 ((p : Int) * (q : Int)) = ((p * q : Nat) : Int) := by
  have h := Nat.mul_le_mul hp hq
  rw [← Int.natCast_mul]
  exact wrap_ok ((p * q : Nat) : Int) (by omega)

set_option maxHeartbeats 1600000 in
theorem spec_cuChooseF (n k : Nat) (w : World) (hn : n ≤ 20) (hk : k ≤ n) :
    Calls Try.prog 63 #[.int .i64 n, .int .i64 k] w fun e w' => e = .returned (.int .i64 (chI n k)) ∧ w = w' := by
  go_enter Try.func63, Try.ntmps63
  go_wp2
  go_loop [5, 6] (fun o i => ∃ t : Nat, t ≤ k ∧ i = .int .i64 t ∧ o = .int .i64 (chI n t)) (fun _ i => k - (intOf i).toNat)
  case atStart => exact ⟨0, Nat.zero_le _, rfl, rfl⟩
  case round =>
    obtain ⟨t, ht, rfl, rfl⟩ := hrel
    by_cases hlt : t < k
    · have hb := chI_le (n := n) (i := t) hn (by omega)
      have hm := mul_bd hb (show n - t ≤ 20 by omega)
      have hfin := step_div (p := chI n t) (s := n - t) (d := t + 1) (r := chI n (t + 1)) (by omega) rfl (a := (n : Int) - (t : Int)) (e := (t : Int) + 1) (by omega) (by omega)
      have Hfin := Lib.hid hfin
      generalize ((chI n t : Nat) : Int) = p at *
      clear hb hm hfin
      go_wp2
      go_round
      case rel => exact ⟨t + 1, by omega, by go_num, by rw [Hfin.out]⟩
      case measure => simp [intOf]; omega
    · obtain rfl : t = k := by omega
      go_wp2
      go_ret
      exact ⟨rfl, rfl⟩
theorem cat_run {k : Nat} (hk : k ≤ 10) : wrap64 (((chI (2 * k) k : Nat) : Int) / ((k : Int) + 1)) = ((cntT (k + 2) : Nat) : Int) := by
  have h := cntT_run (n := k + 2) (by omega) (by omega)
  rw [show 2 * (k + 2) - 4 = 2 * k by omega, show k + 2 - 2 = k by omega] at h
  have e : ((k + 2 : Nat) : Int) - 1 = (k : Int) + 1 := by omega
  rw [e, Int.tdiv_eq_ediv_of_nonneg (by omega)] at h
  exact h

set_option maxRecDepth 100000 in
set_option maxHeartbeats 3200000 in
theorem spec_CountFiner (n : Int) (A : Option Addr) (c B : Nat) (l : List (Int × Int)) (w : World) (h : SlD w B A l) (hB : B ≤ w.heap.size) (hl : l.length ≤ 1048576) (hlc : l.length ≤ c) :
    Calls Try.prog 33 #[.int .i64 n, .slice A l.length c] w (CfE n l w) := by
  have HG := Lib.hid (spec_cuGood n A c B l w h hB hl hlc)
  cases hc : cutB n l
  · rw [hc] at HG
    have HE := Lib.hid fun w' (hb : Below w.heap.size w w') => cfE_no hc hb
    clear h hc
    go_enter Try.func33, Try.ntmps33
    go_wp2_with fail
    refine HG.out.mono ?_
    rintro e w1 ⟨rfl, hb1⟩
    have HF := Lib.hid (HE.out _ hb1)
    go_wp2
    go_ret2
    exact HF.out
  · rw [hc] at HG
    obtain ⟨h3, h12, h9⟩ := cutB_len hc
    obtain ⟨m, rfl⟩ := Int.eq_ofNat_of_zero_le (show 0 ≤ n by omega)
    have HP := Lib.hid fun w1 (hb : Below w.heap.size w w1) => spec_cuPieces m A c B l.length l w1 (by omega) (by omega) rfl (by omega) (cut_nc hc).2.2.2.2.1 (h.below (hb.mono hB)) (Nat.le_trans hB hb.size)
    have hf := pcL_facts hc
    obtain ⟨c1, c2, c3⟩ := cut_lens hc
    have HE := Lib.hid fun w' v h2 (hb : Below w.heap.size w w') => cfE_yes (v := v) hc h2 hb
    have Hbd := Lib.hid fun k => prodN_le c3 c1 (by omega) k
    have Hc3 := Lib.hid c3
    obtain ⟨K, hK⟩ : ∃ K, (pcL m l).length = K := ⟨_, rfl⟩
    have hK10 : K ≤ 10 := by rw [← hK, hf.1]; omega
    have HK := Lib.hid hK
    unfold GivSS at HP
    rw [hK] at HP
    generalize pcL m l = T at *
    clear h hc hf hK c1 c2 c3
    go_enter Try.func33, Try.ntmps33
    go_wp2_with fail
    refine HG.out.mono ?_
    rintro e w1 ⟨rfl, hb1⟩
    go_wp2_with fail
    refine (HP.out _ hb1).mono ?_
    rintro e w2 ⟨A1, c1, rfl, hs1, hb2⟩
    have S1 := Lib.hid hs1.to
    have B1 := Lib.hid (below_kept hb1 (Nat.le_refl _) hb2)
    clear hs1 hb1 hb2
    go_wp2
    go_loop [6, 8, 9, 18] (fun ov _ _ iv => ∃ k : Nat, k ≤ K ∧ iv = .int .i64 k ∧ ov = .int .i64 (prodN ((lnN T).take k))) (fun _ _ _ iv => K - (intOf iv).toNat)
    case atStart => exact ⟨0, Nat.zero_le _, rfl, rfl⟩
    case round =>
      obtain ⟨k, hk, rfl, rfl⟩ := hrel
      by_cases hlt : k < K
      · obtain ⟨g, off, rfl, hgB, hcg⟩ := S1.out (by rw [HK.out]; omega)
        obtain ⟨Aj, cj, y0, _⟩ := hcg k (by rw [HK.out]; exact hlt)
        have k1 : (k : Int) < (K : Int) := by omega
        have hkl : k < (lnN T).length := by unfold lnN; rw [List.length_map, HK.out]; exact hlt
        have hnx := prodN_take (lnN T) k hkl
        have hm := Hc3.out _ (List.getElem_mem hkl)
        have he : (lnN T)[k] = (rowOf T k).length := by simp [lnN, rowOf, show k < T.length by rw [HK.out]; exact hlt]
        rw [he] at hnx hm
        obtain ⟨q, hq⟩ : ∃ q, (rowOf T k).length = q + 2 := ⟨(rowOf T k).length - 2, by omega⟩
        rw [hq] at y0 hnx hm
        have hb2 := cntT_bd (n := q + 2) (by omega)
        have hrun := cf_run (Hbd.out k) hb2
        have Hcall := Lib.hid fun w => spec_cuChooseF (2 * q) q w (by omega) (by omega)
        have hcat := cat_run (k := q) (by omega)
        have e2 : ((2 * q : Nat) : Int) = 2 * (q : Int) := by omega
        rw [e2] at Hcall
        have q1 : (q : Int) ≤ 10 := by omega
        have Hnx := Lib.hid hnx
        have hpb := Hbd.out k
        have Hcat := Lib.hid hcat
        have Hrun := Lib.hid hrun
        clear hcg he hq hnx hcat hrun e2
        generalize prodN ((lnN T).take k) = p at *
        generalize chI (2 * q) q = z at *
        generalize cntT (q + 2) = t at *
        go_wp2_with fail
        refine (Hcall.out _).mono ?_
        rintro e w3 ⟨rfl, rfl⟩
        go_wp2
        go_round
        case rel => exact ⟨k + 1, by omega, by go_num, by
          show Value.int .i64 (wrap64 ((p : Int) * wrap64 ((z : Int) / ((q : Int) + 1)))) = _
          rw [Hcat.out, Hrun.out, Hnx.out]⟩
        case measure => simp [intOf]; omega
      · obtain rfl : k = K := by omega
        have ht : (lnN T).take k = lnN T := List.take_of_length_le (by unfold lnN; rw [List.length_map, HK.out]; exact Nat.le_refl _)
        rw [ht]
        have HF := Lib.hid (HE.out w2 _ rfl B1.out)
        clear ht
        generalize prodN (lnN T) = v at *
        go_wp2
        go_ret2
        exact HF.out

set_option maxRecDepth 100000 in
set_option maxHeartbeats 3200000 in
theorem impl_CountFiner (n : Int) (A : Option Addr) (c B : Nat) (l : List (Int × Int)) (w : World) (h : SlD w B A l) (hB : B ≤ w.heap.size) (hl : l.length ≤ 1048576) (hlc : l.length ≤ c) :
    Calls Try.prog 34 #[.int .i64 n, .slice A l.length c] w (CfE n l w) := by
  have HP := Lib.hid (impl_SizesOfCut n A c B l w h hB hl hlc)
  unfold RetI at HP
  cases hc : cutB n l
  · rw [hc, szR_no hc] at HP
    have HE := Lib.hid fun w' (hb : Below w.heap.size w w') => cfE_no hc hb
    clear h hc
    go_enter Try.func34, Try.ntmps34
    go_wp2_with fail
    refine HP.out.mono ?_
    rintro e w1 ⟨A1, c1, rfl, _, hb1⟩
    have HF := Lib.hid (HE.out _ hb1)
    go_wp2
    go_ret2
    exact HF.out
  · obtain ⟨h3, h12, h9⟩ := cutB_len hc
    obtain ⟨m, rfl⟩ := Int.eq_ofNat_of_zero_le (show 0 ≤ n by omega)
    obtain ⟨c1, c2, c3⟩ := cut_lens hc
    have HE := Lib.hid fun w' v h2 (hb : Below w.heap.size w w') => cfE_yes (v := v) hc h2 hb
    obtain ⟨L, hL, hp⟩ := sz_nat hc
    rw [hc, szR_yes hc, hL] at HP
    have d1 : L.sum = (m - 2) + 2 * L.length := by rw [hp.sum_nat, hp.length_eq]; exact c1
    have d3 : ∀ a ∈ L, 3 ≤ a ∧ a ≤ 12 := fun a ha => c3 a (hp.mem_iff.1 ha)
    have Hbd := Lib.hid fun k => prodN_le d3 d1 (by omega) k
    have Hd3 := Lib.hid d3
    have Hpp := Lib.hid (prodN_perm hp)
    obtain ⟨K, hK⟩ : ∃ K, (L.map fun (a : Nat) => (a : Int)).length = K := ⟨_, rfl⟩
    have hK10 : K ≤ 10 := by rw [← hK, List.length_map, hp.length_eq, c2]; omega
    have HK := Lib.hid hK
    rw [hK] at HP
    clear h hc hL hp hK c1 c2 c3 d1 d3
    go_enter Try.func34, Try.ntmps34
    go_wp2_with fail
    refine HP.out.mono ?_
    rintro e w1 ⟨A1, c1, rfl, o1, hb1⟩
    have S1 := Lib.hid (show SlI w1 w1.heap.size A1 (L.map fun (a : Nat) => (a : Int)) from by have := o1; rw [← HK.out] at this; exact SlI.of_own this)
    have B1 := Lib.hid hb1
    clear o1 hb1
    go_wp2
    go_loop [8, 10, 21] (fun ov _ iv => ∃ k : Nat, k ≤ K ∧ iv = .int .i64 k ∧ ov = .int .i64 (prodN (L.take k))) (fun _ _ iv => K - (intOf iv).toNat)
    case atStart => exact ⟨0, Nat.zero_le _, rfl, rfl⟩
    case round =>
      obtain ⟨k, hk, rfl, rfl⟩ := hrel
      by_cases hlt : k < K
      · obtain ⟨g, off, rfl, hgB, hcg⟩ := S1.out (by rw [HK.out]; omega)
        have y0 := hcg k (by rw [HK.out]; exact hlt)
        have k1 : (k : Int) < (K : Int) := by omega
        have hkl : k < L.length := by have := HK.out; rw [List.length_map] at this; omega
        have hnx := prodN_take L k hkl
        have hm := Hd3.out _ (List.getElem_mem hkl)
        have he : (L.map fun (a : Nat) => (a : Int)).getD k 0 = (L[k] : Int) := by simp [hkl]
        rw [he] at y0
        obtain ⟨q, hq⟩ : ∃ q, L[k] = q := ⟨_, rfl⟩
        rw [hq] at y0 hnx hm
        have hb2 := cntT_bd (n := q) (by omega)
        have hrun := cf_run (Hbd.out k) hb2
        have Hcall := Lib.hid fun w => impl_countTriangulations q w (by omega) (by omega)
        have Hnx := Lib.hid hnx
        have hpb := Hbd.out k
        have Hrun := Lib.hid hrun
        clear hcg he hq hnx hrun
        generalize prodN (L.take k) = p at *
        generalize cntT q = t at *
        go_wp2_with fail
        refine (Hcall.out _).mono ?_
        rintro e w3 ⟨rfl, rfl⟩
        go_wp2
        go_round
        case rel => exact ⟨k + 1, by omega, by go_num, by
          show Value.int .i64 (wrap64 ((p : Int) * (t : Int))) = _
          rw [Hrun.out, Hnx.out]⟩
        case measure => simp [intOf]; omega
      · obtain rfl : k = K := by omega
        have ht : L.take k = L := List.take_of_length_le (by have := HK.out; rw [List.length_map] at this; omega)
        rw [ht]
        have HF := Lib.hid (HE.out w1 _ Hpp.out.symm B1.out)
        clear ht
        generalize prodN L = v at *
        go_wp2
        go_ret2
        exact HF.out

theorem WCountFiner.walk (w : World) (n : Int) (wn : (Lit.int .i64 n).wf = true) (A : Option Addr) (c : Nat) (l : List (Int × Int)) (h : SlD w w.heap.size A l)
    (hj : l.length ≤ c ∧ c ≤ maxLen ∧ ∀ x ∈ l, (Lit.int .i64 x.1).wf = true ∧ (Lit.int .i64 x.2).wf = true) :
    Calls Try.prog 7 #[.int .i64 n, .slice A l.length c] w fun e w' => e = .returned (.bool true) ∧ Below w.heap.size w w' :=
  WCountFiner.core w n A c l h hj.1 hj.2.1 (cfR n l) (cutB n l)
    (Lib.hid fun A c w h hl hlc => spec_CountFiner n A c _ l w h (Nat.le_refl _) hl hlc)
    (Lib.hid fun A c w h hl hlc => impl_CountFiner n A c _ l w h (Nat.le_refl _) hl hlc)
end Go.Proofs.Ytlnnnjnboknoeaa
