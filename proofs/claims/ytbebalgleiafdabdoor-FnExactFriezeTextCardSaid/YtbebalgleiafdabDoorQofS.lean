/- The model's frRead, QuiddityOfFrieze, IsFrieze. -/
import Derived.Test.YtbebalgleiafdabDoorRowOfFriezeW
import Derived.Test.YtbebalgleiafdabDoorIsQuiddityW
import Derived.Test.YtbebalgleiafdabDoorSSA
import Derived.Test.YtbebalgleiafdabDoorAppI
import Derived.Test.YtbebalgleiafdabDoorCapS
namespace Go.Proofs.YtbebalgleiafdabDoor
set_option linter.unusedVariables false
open Go.RowKit

/-- a first row turned: the quiddity -/
def rotR (R : List Int) : List Int := R.getD (R.length - 1) 0 :: R.take (R.length - 1)
theorem rotR_length {R : List Int} (h : 1 ≤ R.length) : (rotR R).length = R.length := by simp [rotR]; omega
/-- the first k rows are those of a quiddity -/
def rowsB (q : List Int) (Ls : List (List Int)) (k : Nat) : Bool := (List.range k).all fun j => decide (rowOf Ls j = rowL q ((j : Int) + 1) q.length)
theorem rowsB_zero (q : List Int) (Ls : List (List Int)) : rowsB q Ls 0 = true := rfl
theorem rowsB_succ (q : List Int) (Ls : List (List Int)) (k : Nat) : rowsB q Ls (k + 1) = (rowsB q Ls k && decide (rowOf Ls k = rowL q ((k : Int) + 1) q.length)) := by
  simp [rowsB, List.range_succ]
theorem rowsB_no {q : List Int} {Ls : List (List Int)} {k m : Nat} (h : k < m) (hne : rowOf Ls k ≠ rowL q ((k : Int) + 1) q.length) : rowsB q Ls m = false := by
  unfold rowsB
  rw [List.all_eq_false]
  exact ⟨k, by simpa using h, by simpa using hne⟩
/-- a frieze -/
def friB (Ls : List (List Int)) : Bool := decide (1 ≤ Ls.length ∧ 4 ≤ (rowOf Ls 0).length ∧ (rowOf Ls 0).length ≤ 12 ∧ Ls.length + 3 = (rowOf Ls 0).length) && isQ (rotR (rowOf Ls 0)) && rowsB (rotR (rowOf Ls 0)) Ls Ls.length
def friQ (Ls : List (List Int)) : List Int := if friB Ls = true then rotR (rowOf Ls 0) else []
theorem friQ_yes {Ls : List (List Int)} (h : friB Ls = true) : friQ Ls = rotR (rowOf Ls 0) := by unfold friQ; rw [if_pos h]
theorem friQ_no {Ls : List (List Int)} (h : friB Ls = false) : friQ Ls = [] := by unfold friQ; rw [h]; rfl
theorem friB_1 {Ls : List (List Int)} (h : ¬(1 ≤ Ls.length ∧ 4 ≤ (rowOf Ls 0).length ∧ (rowOf Ls 0).length ≤ 12 ∧ Ls.length + 3 = (rowOf Ls 0).length)) : friB Ls = false := by unfold friB; rw [decide_eq_false h]; rfl
theorem friB_2 {Ls : List (List Int)} (h : isQ (rotR (rowOf Ls 0)) = false) : friB Ls = false := by unfold friB; rw [h]; simp
theorem friB_3 {Ls : List (List Int)} (h : rowsB (rotR (rowOf Ls 0)) Ls Ls.length = false) : friB Ls = false := by unfold friB; rw [h]; simp
theorem friB_yes {Ls : List (List Int)} (h1 : 1 ≤ Ls.length ∧ 4 ≤ (rowOf Ls 0).length ∧ (rowOf Ls 0).length ≤ 12 ∧ Ls.length + 3 = (rowOf Ls 0).length) (h2 : isQ (rotR (rowOf Ls 0)) = true) (h3 : rowsB (rotR (rowOf Ls 0)) Ls Ls.length = true) : friB Ls = true := by unfold friB; rw [decide_eq_true h1, h2, h3]; rfl
theorem friQ_length (Ls : List (List Int)) : (friQ Ls).length ≤ 12 := by
  cases h : friB Ls
  · rw [friQ_no h]; simp
  · rw [friQ_yes h]
    unfold friB at h
    simp only [Bool.and_eq_true, decide_eq_true_eq] at h
    rw [rotR_length (by omega)]
    omega
theorem frI_none {Ls : List (List Int)} {w w' : World} (h : friB Ls = false) (hb : Below w.heap.size w w') : RetI w (friQ Ls) (friB Ls) (.returned (.tuple #[.slice none 0 0, .bool false])) w' := by
  rw [friQ_no h, h]
  exact ⟨none, 0, rfl, World.ownsRow_nil _ _ _ _, hb⟩
theorem take_eq_next {l r : List Int} {k : Nat} (hl : k < l.length) (hr : k < r.length) (ht : l.take k = r.take k) (h : l.getD k 0 = r.getD k 0) : l.take (k + 1) = r.take (k + 1) := by
  rw [List.take_succ_eq_append_getElem hl, List.take_succ_eq_append_getElem hr, ht]
  congr 2
  simpa [hl, hr] using h

set_option maxRecDepth 100000 in
set_option maxHeartbeats 3200000 in
theorem spec_frRead (A : Option Addr) (c B N : Nat) (Ls : List (List Int)) (w : World) (hN : Ls.length = N) (h : SlSS w B A Ls) (hcap : CapSS w A N) (hB : B ≤ w.heap.size) (hl : N ≤ 1048576) (hr : ∀ j, j < Ls.length → (rowOf Ls j).length ≤ 1048576) :
    Calls Tryd.prog 29 #[.slice A N c] w (RetI w (friQ Ls) (friB Ls)) := by
  have H := Lib.hid h
  have HN := Lib.hid hN
  have Hr := Lib.hid hr
  clear h hN hr
  by_cases hN0 : N = 0
  · have hE := frI_none (w := w) (friB_1 (Ls := Ls) (by rw [HN.out]; omega)) (Below.refl _ _)
    have HE := Lib.hid hE
    subst hN0
    clear hE
    go_enter Tryd.func29, Tryd.ntmps29
    go_wp2
    go_ret2
    exact HE.out
  · have n0 : ((N : Int) == 0) = false := by
      have : ¬(N : Int) = 0 := by omega
      simpa using this
    have n1 : (0 : Int) < (N : Int) := by omega
    obtain ⟨b, off, rfl, hbB, hc⟩ := H.out (by rw [HN.out]; omega)
    obtain ⟨A0, c0, g0, hs0⟩ := hc 0 (by rw [HN.out]; omega)
    have hr0 := Hr.out 0 (by rw [HN.out]; omega)
    have hcc := hcap _ _ 0 _ _ _ rfl (by omega) g0
    clear hcap
    rw [Nat.add_zero] at g0
    have Hc := Lib.hid hc
    have hR : rowOf Ls 0 = rowOf Ls 0 := rfl
    obtain ⟨R, hR⟩ : ∃ R, rowOf Ls 0 = R := ⟨_, rfl⟩
    obtain ⟨n, hn⟩ : ∃ n, R.length = n := ⟨_, rfl⟩
    rw [hR, hn] at g0 hcc
    rw [hR] at hs0 hr0
    have HR := Lib.hid hR
    have Hn := Lib.hid hn
    have Hs0 := Lib.hid hs0
    rw [hn] at hr0
    clear hc hR hn hs0
    cases hin : inB n 4 12
    · have hE := frI_none (w := w) (friB_1 (Ls := Ls) (by rw [HR.out, Hn.out]; intro e; have : inB n 4 12 = true := inB_iff'.2 (by omega); rw [hin] at this; cases this)) (Below.refl _ _)
      have HE := Lib.hid hE
      clear hE
      go_enter Tryd.func29, Tryd.ntmps29
      go_wp2_with fail
      refine (spec_l1In' _ _ _ _).mono ?_
      rintro e w1 ⟨rfl, rfl⟩
      rw [hin]
      go_wp2
      go_ret2
      exact HE.out
    · have hin2 := inB_iff'.1 hin
      have m0 : (0 : Int) ≤ (n : Int) - 1 := by omega
      have m4 : (n : Int) - 1 ≤ (c0 : Int) := by omega
      have m5 : 0 < N := by omega
      have m6 : (1 : Int) ≤ (n : Int) := by omega
      have m1 : (n : Int) - 1 < (n : Int) := by omega
      have m2 : ((n : Int) - 1).toNat = n - 1 := by omega
      have m3 : IntKind.i64.wrap ((n : Int) - 1) = (n : Int) - 1 := IntWalk.i64_in _ (by omega)
      obtain ⟨b0, off0, eA0, hb0B, hc0⟩ := Hs0.out (by rw [Hn.out]; omega)
      subst eA0
      have x0 := hc0 (n - 1) (by rw [Hn.out]; omega)
      obtain ⟨x, hx⟩ : ∃ x, R.getD (n - 1) 0 = x := ⟨_, rfl⟩
      rw [hx] at x0
      have hrot : [x] ++ R.take (n - 1) = rotR R := by unfold rotR; rw [Hn.out, hx]; rfl
      have hrl : (rotR R).length = n := by rw [rotR_length (by rw [Hn.out]; omega), Hn.out]
      have own1 : (w.alloc (.cells #[.int .i64 x] 3)).ownsRow w.heap.size 3 1 (.slice (some ⟨w.heap.size, 0, none⟩) 1 1) 1 (ics [x]) := ⟨rfl, .inr ⟨w.heap.size, 1, #[.int .i64 x], rfl, Nat.le_refl _, heap_alloc_new w _, Nat.le_refl _, by decide, rfl, rfl⟩⟩
      have hsl1 : SlI (w.alloc (.cells #[.int .i64 x] 3)) B (some ⟨b0, off0, none⟩) (R.take (n - 1)) := (Hs0.out.take (n - 1)).below (((Below.refl _ _).alloc (Nat.le_refl _) _).mono hB)
      have htl : (R.take (n - 1)).length = n - 1 := by rw [List.length_take, Hn.out]; omega
      have Hrot := Lib.hid hrot
      have Hrl := Lib.hid hrl
      have Hsl1 := Lib.hid hsl1
      have Htl := Lib.hid htl
      clear hc0 hx hrot hrl hsl1 htl
      obtain ⟨hn4, hn12⟩ := hin2
      go_enter Tryd.func29, Tryd.ntmps29
      go_wp2_with fail
      refine (spec_l1In' _ _ _ _).mono ?_
      rintro e w1 ⟨rfl, rfl⟩
      rw [hin]
      have y0 : w.cell? ⟨b, off, none⟩ = some (.slice (some ⟨b0, off0, none⟩) n c0) := g0
      have Hy0 := Lib.hid y0
      have Hx0 := Lib.hid x0
      have Hown1 := Lib.hid own1
      clear own1
      have hkeep : ∀ w', Below w.heap.size w w' → w'.cell? ⟨b, off, none⟩ = some (.slice (some ⟨b0, off0, none⟩) n c0) ∧ w'.cell? ⟨b0, off0 + (n - 1), none⟩ = some (.int .i64 x) ∧ Below w.heap.size w w' := fun w' hw => ⟨by rw [(hw.mono hB).cell (p := ⟨b, off, none⟩) hbB]; exact Hy0.out, by rw [(hw.mono hB).cell (p := ⟨b0, off0 + (n - 1), none⟩) hb0B]; exact Hx0.out, hw⟩
      have Hkeep := Lib.hid hkeep
      clear hkeep y0
      go_wp2_with fail
      clear g0 x0
      go_region_held3 (fun w' => w'.cell? ⟨b, off, none⟩ = some (.slice (some ⟨b0, off0, none⟩) n c0) ∧ w'.cell? ⟨b0, off0 + (n - 1), none⟩ = some (.int .i64 x) ∧ Below w.heap.size w w')
        (first
          | assumption
          | exact Hkeep.out _ (Below.refl _ _).drew
          | exact Hkeep.out _ (((Below.refl w.heap.size w).drew).alloc (Nat.le_refl _) _)
          | exact Hkeep.out _ ((Below.refl w.heap.size w).alloc (Nat.le_refl _) _).drew
          | (refine Hkeep.out _ ?_; exact Below.grown ((Below.refl w.heap.size w).alloc (Nat.le_refl _) (.cells #[.int .i64 x] 3)).drew hg1 (by simp) (above_blk (Nat.le_refl _))))
        (first
          | (refine step_appendNI _ rfl _ _ rfl w.heap.size (.slice (some ⟨w.heap.size, 0, none⟩) 1 1) 1 [x] rfl rfl Hown1.out (some ⟨b0, off0, none⟩) (n - 1) c0 (R.take (n - 1)) B n (by omega) rfl Htl.out Hsl1.out (by decide) (by omega) (by simp) ?_; intro A1 c1 w1 hq hg1))
      rename_i hS1
      have hb1 : Below w.heap.size w w1 := hS1.2.2
      rw [Hrot.out] at hq
      obtain ⟨q, hqq⟩ : ∃ q, rotR R = q := ⟨_, rfl⟩
      rw [hqq] at hq
      have hql : q.length = n := by rw [← hqq]; exact Hrl.out
      have Hq := Lib.hid hq
      have Hb1 := Lib.hid hb1
      have Hqq := Lib.hid hqq
      have Hql := Lib.hid hql
      have hcap := own_capI hq
      clear hg1 hS1 Hown1 hq hb1 hqq hql Hsl1 Htl Hrot Hrl Hy0 Hx0 Hkeep m6 m4 m3 m2 m1 m0
      by_cases hNn : N + 3 = n
      · have p0 : ((N : Int) != (n : Int) - 3) = false := by
          have : (N : Int) = (n : Int) - 3 := by omega
          simpa using this
        have hN9 : N ≤ 9 := by omega
        have hQ := spec_IsQuiddity A1 c1 w1.heap.size q w1 (SlI.of_own Hq.out) (Nat.le_refl _) (by rw [Hql.out]; omega) (by rw [Hql.out]; exact hcap)
        rw [Hql.out] at hQ
        have HQ := Lib.hid hQ
        clear hQ
        go_wp2_with fail
        refine HQ.out.mono ?_
        rintro e w2 ⟨rfl, hb2⟩
        clear HQ
        cases hqi : isQ q
        · have hE := frI_none (w := w) (friB_2 (Ls := Ls) (by rw [HR.out, Hqq.out]; exact hqi)) (below_kept Hb1.out (Nat.le_refl _) hb2)
          have HE := Lib.hid hE
          clear hE hb2 hqi
          go_wp2
          go_ret2
          exact HE.out
        · have Hd2 := Lib.hid (below_kept Hb1.out (Nat.le_refl _) hb2)
          have Hq2 := Lib.hid (own_kept Hq.out hb2)
          have hq1 : 1 ≤ Ls.length ∧ 4 ≤ (rowOf Ls 0).length ∧ (rowOf Ls 0).length ≤ 12 ∧ Ls.length + 3 = (rowOf Ls 0).length := by rw [HR.out, Hn.out, HN.out]; omega
          have hyes : rowsB q Ls Ls.length = true → friB Ls = true := fun h => friB_yes hq1 (by rw [HR.out, Hqq.out]; exact hqi) (by rw [HR.out, Hqq.out]; exact h)
          have hno : rowsB q Ls Ls.length = false → friB Ls = false := fun h => friB_3 (by rw [HR.out, Hqq.out]; exact h)
          have hqe : friB Ls = true → friQ Ls = q := fun h => by rw [friQ_yes h, HR.out, Hqq.out]
          have Hyes := Lib.hid hyes
          have Hno := Lib.hid hno
          have Hqe := Lib.hid hqe
          clear hqi hb2 hq1 hyes hno hqe Hb1 Hq Hqq
          go_wp2
          go_loopw [53] (fun i wr => ∃ k : Nat, k ≤ N ∧ i = .int .i64 k ∧ rowsB q Ls k = true ∧ Below w2.heap.size w2 wr) (fun i _ => N - (intOf i).toNat)
          case atStart => exact ⟨0, Nat.zero_le _, rfl, rowsB_zero _ _, Below.refl _ _⟩
          case round =>
            obtain ⟨k, hk, rfl, hrb, hb⟩ := hrel
            have Hrb := Lib.hid hrb
            have Hb := Lib.hid hb
            have Hd := Lib.hid (below_kept Hd2.out (Nat.le_refl _) hb)
            have Hqk := Lib.hid (own_kept Hq2.out hb)
            clear hrb hb
            by_cases hlt : k < N
            · have i0 : (0 : Int) ≤ (k : Int) := by omega
              have i1 : (k : Int) < (N : Int) := by omega
              obtain ⟨Ak, ck, gk, hsk⟩ := Hc.out k (by rw [HN.out]; exact hlt)
              have gk' := (Hd.out.mono hB).cell (p := ⟨b, off + k, none⟩) hbB
              rw [gk] at gk'
              have Hsk := Lib.hid hsk
              have hrk := Hr.out k (by rw [HN.out]; exact hlt)
              obtain ⟨Rk, hRk⟩ : ∃ Rk, rowOf Ls k = Rk := ⟨_, rfl⟩
              obtain ⟨nk, hnk⟩ : ∃ nk, Rk.length = nk := ⟨_, rfl⟩
              rw [hRk, hnk] at gk'
              rw [hRk, hnk] at hrk
              rw [hRk] at Hsk
              have HRk := Lib.hid hRk
              have Hnk := Lib.hid hnk
              have hfr := spec_frRow A1 c1 wr.heap.size q ((k : Int) + 1) wr (SlI.of_own Hqk.out) (Nat.le_refl _) (by rw [Hql.out]; omega) (by rw [Hql.out]; omega) (by omega) (by omega)
              rw [Hql.out] at hfr
              have Hfr := Lib.hid hfr
              clear gk hsk hRk hnk hfr
              go_wp2_with fail
              refine Hfr.out.mono ?_
              rintro e w3 ⟨A3, c3, rfl, o3, b3⟩
              rw [rowL_length] at o3 ⊢
              have Ho3 := Lib.hid o3
              have Hd3 := Lib.hid (below_kept Hd.out (Nat.le_refl _) b3)
              have Hb3 := Lib.hid (below_kept Hb.out (Nat.le_refl _) b3)
              have Hqk3 := Lib.hid (own_kept Hqk.out b3)
              obtain ⟨V, hV⟩ : ∃ V, rowL q ((k : Int) + 1) n = V := ⟨_, rfl⟩
              have hVl : V.length = n := by rw [← hV, rowL_length]
              have hne : Rk ≠ V → friB Ls = false := fun h => Hno.out (rowsB_no (by rw [HN.out]; exact hlt) (by rw [HRk.out, Hql.out, hV]; exact h))
              have hsame : Rk = V → rowsB q Ls (k + 1) = true := fun h => by rw [rowsB_succ, Hrb.out, HRk.out, Hql.out, hV, h]; simp
              rw [hV] at Ho3
              have Hne := Lib.hid hne
              have Hsame := Lib.hid hsame
              have HVl := Lib.hid hVl
              clear o3 b3 hV hVl hne hsame Hfr Hrb gk' Hqk Hd Hb
              by_cases hnn : nk = n
              · subst hnn
                go_wp2
                obtain ⟨wo, hwo⟩ : ∃ wo, wo = w3 := ⟨_, rfl⟩
                rw [← hwo] at Ho3 Hd3 Hb3 Hqk3 ⊢
                clear hwo
                go_loopw [68] (fun i wq => ∃ j : Nat, j ≤ nk ∧ i = .int .i64 j ∧ Rk.take j = V.take j ∧ Below wo.heap.size wo wq) (fun i _ => nk - (intOf i).toNat)
                case atStart => exact ⟨0, Nat.zero_le _, rfl, by simp, Below.refl _ _⟩
                case round =>
                  obtain ⟨j, hj, rfl, htk, hbj⟩ := hrel
                  have Htk := Lib.hid htk
                  have Hbj := Lib.hid hbj
                  clear htk hbj
                  by_cases hjt : j < nk
                  · have j0 : (0 : Int) ≤ (j : Int) := by omega
                    have j1 : (j : Int) < (nk : Int) := by omega
                    have hdj := below_kept Hd3.out (Nat.le_refl _) Hbj.out
                    obtain ⟨b4, off4, eAk, hb4, hc4⟩ := (Hsk.out.below (hdj.mono hB)) (by rw [Hnk.out]; omega)
                    subst eAk
                    have y0 := hc4 j (by rw [Hnk.out]; exact hjt)
                    obtain ⟨b5, off5, eA3, hb5, hc5⟩ := ((SlI.of_own Ho3.out).below Hbj.out) (by rw [HVl.out]; omega)
                    subst eA3
                    have y1 := hc5 j (by rw [HVl.out]; exact hjt)
                    have hnext := take_eq_next (l := Rk) (r := V) (k := j) (by rw [Hnk.out]; exact hjt) (by rw [HVl.out]; exact hjt) Htk.out
                    have hdiff : Rk.getD j 0 ≠ V.getD j 0 → friB Ls = false := fun h => Hne.out (fun e => h (by rw [e]))
                    generalize Rk.getD j 0 = u at *
                    generalize V.getD j 0 = v at *
                    have Hnext := Lib.hid hnext
                    have Hdiff := Lib.hid hdiff
                    have Hdj := Lib.hid hdj
                    clear hc4 hc5 hnext hdiff hdj
                    by_cases huv : u = v
                    · subst huv
                      have HE := Lib.hid (Hnext.out rfl)
                      clear Hnext Hdiff
                      go_wp2
                      go_roundw
                      case rel => exact ⟨j + 1, by omega, by go_num, HE.out, Hbj.out⟩
                      case measure => simp [intOf]; omega
                    · have huv' : (u == v) = false := by simpa using huv
                      have hE := frI_none (w := w) (Hdiff.out huv) Hdj.out
                      have HE := Lib.hid hE
                      clear hE huv Hnext Hdiff
                      go_wp2
                      go_ret2
                      exact HE.out
                  · obtain rfl : j = nk := by omega
                    have hEq : Rk = V := by
                      have h1 := Htk.out
                      rwa [List.take_of_length_le (by rw [Hnk.out]; exact Nat.le_refl _), List.take_of_length_le (by rw [HVl.out]; exact Nat.le_refl _)] at h1
                    have HE := Lib.hid (Hsame.out hEq)
                    have HBB := Lib.hid (below_kept Hb3.out (Nat.le_refl _) Hbj.out)
                    clear hEq
                    go_wp2
                    go_roundw
                    case rel => exact ⟨k + 1, by omega, by go_num, HE.out, HBB.out⟩
                    case measure => simp [intOf]; omega
              · have hnn' : ((nk : Int) != (n : Int)) = true := by
                  have : ¬(nk : Int) = (n : Int) := by omega
                  simpa using this
                have hE := frI_none (w := w) (Hne.out (fun e => hnn (by rw [← Hnk.out, e, HVl.out]))) Hd3.out
                have HE := Lib.hid hE
                clear hE hnn
                go_wp2
                go_ret2
                exact HE.out
            · obtain rfl : k = N := by omega
              have hy := Hyes.out (by rw [HN.out]; exact Hrb.out)
              have hres : RetI w (friQ Ls) (friB Ls) (.returned (.tuple #[.slice A1 n c1, .bool true])) wr := by
                rw [Hqe.out hy, hy]
                exact ⟨A1, c1, by rw [Hql.out], by rw [Hql.out]; exact Hqk.out, Hd.out⟩
              have HE := Lib.hid hres
              clear hres hy
              go_wp2
              go_ret2
              exact HE.out
      · have p0 : ((N : Int) != (n : Int) - 3) = true := by
          have : ¬(N : Int) = (n : Int) - 3 := by omega
          simpa using this
        have hE := frI_none (w := w) (friB_1 (Ls := Ls) (by rw [HR.out, Hn.out, HN.out]; omega)) Hb1.out
        have HE := Lib.hid hE
        clear hE
        go_wp2
        go_ret2
        exact HE.out
end Go.Proofs.YtbebalgleiafdabDoor
