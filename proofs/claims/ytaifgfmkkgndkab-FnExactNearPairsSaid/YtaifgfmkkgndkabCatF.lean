/- slices.Concat of rows of fractions. -/
import Derived.Test.YtaifgfmkkgndkabAppF
import Derived.Lib.AppendZerosOnto
import Derived.OwnWalk
namespace Go.Proofs.Ytaifgfmkkgndkab
set_option linter.unusedVariables false
open Go.RowKit

def rowF (Ls : List (List (Int × Int))) (j : Nat) : List (Int × Int) := Ls.getD j []
/-- a slice's value leads to slices that lead to the lists, all below block B -/
def SlFF (w : World) (B : Nat) (A : Option Addr) (Ls : List (List (Int × Int))) : Prop :=
  0 < Ls.length → ∃ b off, A = some ⟨b, off, none⟩ ∧ b < B ∧ ∀ j, j < Ls.length → ∃ Aj cj, w.cell? ⟨b, off + j, none⟩ = some (.slice Aj (rowF Ls j).length cj) ∧ SlD w B Aj (rowF Ls j)
def preF (Ls : List (List (Int × Int))) (j : Nat) : Nat := ((Ls.take j).map List.length).sum
theorem preF_zero (Ls : List (List (Int × Int))) : preF Ls 0 = 0 := by simp [preF]
theorem preF_succ (Ls : List (List (Int × Int))) (j : Nat) (h : j < Ls.length) : preF Ls (j + 1) = preF Ls j + (rowF Ls j).length := by
  unfold preF rowF
  rw [List.take_succ_eq_append_getElem h]
  simp only [List.map_append, List.sum_append, List.map_cons, List.map_nil, List.sum_cons, List.sum_nil]
  simp [h]
theorem preF_le (Ls : List (List (Int × Int))) (j d : Nat) (h : j + d ≤ Ls.length) : preF Ls j ≤ preF Ls (j + d) := by
  induction d with
  | zero => exact Nat.le_refl _
  | succ d ih =>
    have := ih (by omega)
    rw [show j + (d + 1) = (j + d) + 1 by omega, preF_succ Ls (j + d) (by omega)]
    omega
theorem wp_grow0F {o : Oper} {a : Act} {K : Act → World → Prop} {Q : Exit → Act → World → Prop} (w : World) (s x : Operand) (ho : o.op = .call { callee := .builtin .append, args := #[s, x], argTypes := #[22, 3] })
    (N : Nat) (hN : 1 ≤ N) (hN2 : N ≤ 1000000) (hs : a.eval s = .slice none 0 0) (hx : a.eval x = .int .i64 N)
    (h : ∀ c' w', N ≤ c' → c' ≤ maxLen → w'.ownsRow w.heap.size 32 2 (.slice (some ⟨w.heap.size, 0, none⟩) 0 c') 0 (dcs []) → Below w.heap.size w w' → K (a.put o.dst (.slice (some ⟨w.heap.size, 0, none⟩) N c')) w') :
    Oper.wp Try.prog o a w K Q := by
  obtain ⟨i0, hi, hz0, hz1, hz2⟩ := info_parts infoF
  have hrun := Lib.run_append_grow_zeros (P := Try.prog) w 22 3 o.type 32 i0 (.agg #[.int .i64 0, .int .i64 0]) .i64 .i64 Try.underlying22 Try.underlying3 hi hz0 none 0 0 []
    (run_firstCells_none w.drew i0.size 0 0 0) N (by omega) (by omega) (by omega) (by omega) (by rw [hz2]; omega) (growslice_fits (by omega) (by rw [hz2]; omega))
  rw [Nat.zero_add] at hrun
  have hG := grownCap_ge w N 0 32
  have hM := grownCap_le_maxLen w N 0 32 (by unfold maxLen; omega)
  unfold Oper.wp
  simp [execOp, ho, resolve, invoke, builtin, hs, hx, hrun, Result.andThen]
  generalize grownCap w N 0 32 = G at *
  refine h G _ hG hM ⟨rfl, .inr ⟨w.heap.size, G, _, rfl, Nat.le_refl _, heap_alloc_new w.drew _, Nat.zero_le _, hM, ?_, by simp [dcs]⟩⟩ ?_
  · simp [Builtin.zeroCells, Value.cells]
    omega
  · exact (Below.refl _ _).drew.alloc (Nat.le_refl _) _
theorem wpList_grow0F {ops : Array Oper} {rest : List Oper} {o : Oper} {a : Act} {Q : Exit → Act → World → Prop} (w : World) (hgd : o.guard = none) (s x : Operand) (ho : o.op = .call { callee := .builtin .append, args := #[s, x], argTypes := #[22, 3] })
    (N : Nat) (hN : 1 ≤ N) (hN2 : N ≤ 1000000) (hs : a.eval s = .slice none 0 0) (hx : a.eval x = .int .i64 N)
    (h : ∀ c' w', N ≤ c' → c' ≤ maxLen → w'.ownsRow w.heap.size 32 2 (.slice (some ⟨w.heap.size, 0, none⟩) 0 c') 0 (dcs []) → Below w.heap.size w w' → wpList Try.prog ops Q rest (a.put o.dst (.slice (some ⟨w.heap.size, 0, none⟩) N c')) w') :
    wpList Try.prog ops Q (o :: rest) a w :=
  wpList_plain hgd fun _ hK => wp_grow0F w s x ho N hN hN2 hs hx fun c' w' h1 h2 h3 h4 => hK _ _ (h c' w' h1 h2 h3 h4)

set_option maxRecDepth 100000 in
set_option maxHeartbeats 1600000 in
theorem slices_Grow0F (N : Nat) (w : World) (hN : 1 ≤ N) (hN2 : N ≤ 1000000) : Calls Try.prog 113 #[.slice none 0 0, .int .i64 N] w (GivF w []) := by
  have n0 : (0 : Int) < (N : Int) := by omega
  have n1 : (N : Int) ≤ 1000000 := by omega
  go_enter Try.func113, Try.ntmps113
  go_wp2_with (at_builtin; refine wpList_grow0F _ rfl _ _ rfl N hN hN2 rfl rfl ?_; intro c' w' h1 h2 h3 h4)
  have HE := Lib.hid (show GivF w [] (.returned (.slice (some ⟨w.heap.size, 0, none⟩) 0 c')) w' from ⟨some ⟨w.heap.size, 0, none⟩, c', rfl, h3, h4⟩)
  have c1 : (0 : Int) ≤ (c' : Int) := by omega
  clear h3 h4
  go_wp2
  go_ret
  exact HE.out
/-- rows, one after the other -/
def catLF (Ls : List (List (Int × Int))) (k : Nat) : List (Int × Int) := (Ls.take k).flatten
theorem catLF_zero (Ls : List (List (Int × Int))) : catLF Ls 0 = [] := by simp [catLF]
theorem catLF_succ (Ls : List (List (Int × Int))) (k : Nat) (h : k < Ls.length) : catLF Ls (k + 1) = catLF Ls k ++ rowF Ls k := by
  unfold catLF rowF
  rw [List.take_succ_eq_append_getElem h, List.flatten_append]
  simp [h]
theorem catLF_all (Ls : List (List (Int × Int))) : catLF Ls Ls.length = Ls.flatten := by simp [catLF]
theorem catLF_length (Ls : List (List (Int × Int))) : ∀ k, k ≤ Ls.length → (catLF Ls k).length = preF Ls k := by
  intro k
  induction k with
  | zero => intro _; rw [catLF_zero, preF_zero]; rfl
  | succ k ih => intro h; rw [catLF_succ Ls k (by omega), preF_succ Ls k (by omega), List.length_append, ih (by omega)]

set_option maxRecDepth 100000 in
set_option maxHeartbeats 3200000 in
theorem slices_ConcatF (A : Option Addr) (c B m : Nat) (Ls : List (List (Int × Int))) (w : World) (hm : Ls.length = m) (h : SlFF w B A Ls) (hB : B ≤ w.heap.size) (hm9 : m ≤ 9) (hm1 : 1 ≤ m)
    (hrow : ∀ j, j < m → 1 ≤ (rowF Ls j).length ∧ (rowF Ls j).length ≤ 12) :
    Calls Try.prog 89 #[.slice A m c] w (GivF w (catLF Ls m)) := by
  obtain ⟨b, off, rfl, hbB, hcell⟩ := h (by omega)
  have HC := Lib.hid hcell
  have Hrow := Lib.hid hrow
  have Hm := Lib.hid hm
  have hpre : ∀ k, k ≤ m → preF Ls k ≤ 12 * k := by
    intro k
    induction k with
    | zero => intro _; rw [preF_zero]; omega
    | succ k ih =>
      intro hk
      rw [preF_succ Ls k (by omega)]
      have h1 := (hrow k (by omega)).2
      have h2 := ih (by omega)
      omega
  have hpre1 : 1 ≤ preF Ls m := by
    have h1 := preF_le Ls 1 (m - 1) (by omega)
    rw [show 1 + (m - 1) = m by omega] at h1
    have h2 := preF_succ Ls 0 (by omega)
    rw [preF_zero] at h2
    have h3 := (hrow 0 (by omega)).1
    have h4 : preF Ls (0 + 1) = preF Ls 1 := rfl
    omega
  have Hpre := Lib.hid hpre
  have Hpre1 := Lib.hid hpre1
  have mm : (m : Int) ≤ 9 := by omega
  have hbw : b < w.heap.size := by omega
  clear hcell hrow hm h hpre hpre1
  go_enter Try.func89, Try.ntmps89
  go_wp2
  go_loopw [3, 5, 11] (fun s _ i wr => ∃ k : Nat, k ≤ m ∧ i = .int .i64 k ∧ s = .int .i64 (preF Ls k) ∧ wr = w) (fun _ _ i _ => m - (intOf i).toNat)
  case atStart => exact ⟨0, Nat.zero_le _, rfl, by rw [preF_zero]; rfl, rfl⟩
  case round =>
    obtain ⟨k, hk, rfl, rfl, rfl⟩ := hrel
    obtain ⟨w, hww⟩ : ∃ w, w = wr := ⟨_, rfl⟩
    subst hww
    by_cases hlt : k < m
    · obtain ⟨Aj, cj, hcj, hsj⟩ := HC.out k (by rw [Hm.out]; exact hlt)
      have k0 : (0 : Int) ≤ (k : Int) := by omega
      have k1 : (k : Int) < (m : Int) := by omega
      have hps := preF_succ Ls k (by rw [Hm.out]; exact hlt)
      have hp1 := Hpre.out (k + 1) (by omega)
      have Hps := Lib.hid hps
      have p1 : (preF Ls k : Int) ≤ 200 := by have := Hpre.out k hk; omega
      have r1 : ((rowF Ls k).length : Int) ≤ 12 := by have := (Hrow.out k hlt).2; omega
      clear hps hp1 hsj
      generalize preF Ls k = P at *
      generalize (rowF Ls k).length = r at *
      have p0 : ¬ (P : Int) + (r : Int) < 0 := by omega
      go_wp2
      go_roundw
      case rel => exact ⟨k + 1, by omega, by go_num, by rw [Hps.out]; go_num, trivial⟩
      case measure => simp [intOf]; omega
    · obtain rfl : k = m := by omega
      obtain ⟨N, hN⟩ : ∃ N, preF Ls k = N := ⟨_, rfl⟩
      have hN1 : 1 ≤ N := by rw [← hN]; exact Hpre1.out
      have hN2 : N ≤ 200 := by have := Hpre.out k (Nat.le_refl _); omega
      rw [hN]
      clear hN
      go_wp2_with fail
      refine (slices_Grow0F N _ hN1 (by omega)).mono ?_
      rintro e w2 ⟨A2, c2, rfl, ho2, hb2⟩
      have Ho2 := Lib.hid ho2
      have Hb2 := Lib.hid hb2
      clear ho2 hb2
      go_wp2
      go_loopw [6, 8, 27] (fun v _ i wr => ∃ (t : Nat) (L : List (Int × Int)) (A' : Option Addr) (c' : Nat), t ≤ k ∧ i = .int .i64 t ∧ L = catLF Ls t ∧ v = .slice A' L.length c' ∧ wr.ownsRow w.heap.size 32 2 (.slice A' L.length c') L.length (dcs L) ∧ Below w.heap.size w wr) (fun _ _ i _ => k - (intOf i).toNat)
      case atStart => exact ⟨0, [], A2, c2, Nat.zero_le _, rfl, (catLF_zero Ls).symm, rfl, Ho2.out, Hb2.out⟩
      case round =>
        clear Ho2 Hb2
        obtain ⟨t, L, A', c', ht, rfl, hL, rfl, ho, hb⟩ := hrel
        by_cases hlt : t < k
        · obtain ⟨Aj, cj, hcj, hsj⟩ := HC.out t (by rw [Hm.out]; exact hlt)
          have k0 : (0 : Int) ≤ (t : Int) := by omega
          have k1 : (t : Int) < (k : Int) := by omega
          have hst := catLF_succ Ls t (by rw [Hm.out]; exact hlt)
          rw [← hL] at hst
          have hLl : L.length ≤ 200 := by
            have h1 := catLF_length Ls t (by rw [Hm.out]; omega)
            have h2 := Hpre.out t (by omega)
            rw [hL, h1]
            omega
          have hr12 := (Hrow.out t hlt).2
          replace hcj : wr.cell? ⟨b, off + t, none⟩ = some (.slice Aj (rowF Ls t).length cj) := (hb.cell (p := ⟨b, off + t, none⟩) hbw).trans hcj
          have hsj2 := hsj.below (hb.mono hB)
          have yb : b < wr.heap.size := Nat.lt_of_lt_of_le hbw hb.size
          have hbase := hb.size
          have Hob := Lib.hid ho.lt
          obtain ⟨r, hr⟩ : ∃ r, r = rowF Ls t := ⟨_, rfl⟩
          rw [← hr] at hcj hsj2 hst hr12
          have Hst := Lib.hid hst
          have Ho := Lib.hid ho
          have Hb := Lib.hid hb
          have Hs := Lib.hid hsj2
          clear hst ho hb hL hsj hsj2 hr
          go_wp2_with (at_builtin; refine wpList_appendNF _ rfl _ _ rfl w.heap.size (.slice A' L.length c') L.length L rfl rfl Ho.out Aj r.length cj r B (L ++ r).length (by simp) rfl rfl Hs.out (by omega) (by omega) hbase ?_; intro A3 c3 w3 own3 hg3)
          have hb7 := Hb.out.grown hg3 hbase (fun j hj => (Hob.out j hj).1)
          have hlen : L.length + r.length = (catLF Ls (t + 1)).length := by rw [Hst.out]; simp
          rw [← Hst.out] at own3
          have Hlen := Lib.hid hlen
          clear hg3 hlen Ho Hb Hs Hob
          go_roundw
          case rel => exact ⟨t + 1, _, A3, c3, by omega, by go_num, rfl, by rw [Hlen.out], own3, hb7⟩
          case measure => simp [intOf]; omega
        · obtain rfl : t = k := by omega
          have hE : GivF w (catLF Ls t) (.returned (.slice A' L.length c')) wr := by
            rw [← hL]
            exact ⟨A', c', rfl, ho, hb⟩
          have HE := Lib.hid hE
          clear hE ho hb hL
          go_wp2
          go_ret
          exact HE.out
end Go.Proofs.Ytaifgfmkkgndkab
