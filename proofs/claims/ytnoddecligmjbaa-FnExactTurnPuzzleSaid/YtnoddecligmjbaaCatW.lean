/- slices.Concat of rows of numbers. -/
import Derived.Test.YtnoddecligmjbaaLawSS
import Derived.Test.YtnoddecligmjbaaAppI
import Derived.Lib.AppendZerosOnto
import Derived.OwnWalk
namespace Go.Proofs.Ytnoddecligmjbaa
set_option linter.unusedVariables false
open Go.RowKit

theorem wp_grow0 {o : Oper} {a : Act} {K : Act → World → Prop} {Q : Exit → Act → World → Prop} (w : World) (s x : Operand) (ho : o.op = .call { callee := .builtin .append, args := #[s, x], argTypes := #[22, 3] })
    (N : Nat) (hN : 1 ≤ N) (hN2 : N ≤ 1000000) (hs : a.eval s = .slice none 0 0) (hx : a.eval x = .int .i64 N)
    (h : ∀ c' w', N ≤ c' → c' ≤ maxLen → w'.ownsRow w.heap.size 3 1 (.slice (some ⟨w.heap.size, 0, none⟩) 0 c') 0 (ics []) → Below w.heap.size w w' → K (a.put o.dst (.slice (some ⟨w.heap.size, 0, none⟩) N c')) w') :
    Oper.wp Try.prog o a w K Q := by
  obtain ⟨i0, hi, hz0, hz1, hz2⟩ := info_parts infoI
  have hrun := Lib.run_append_grow_zeros (P := Try.prog) w 22 3 o.type 3 i0 (.int .i64 0) .i64 .i64 Try.underlying22 Try.underlying3 hi hz0 none 0 0 []
    (run_firstCells_none w.drew i0.size 0 0 0) N (by omega) (by omega) (by omega) (by omega) (by rw [hz2]; omega) (growslice_fits (by omega) (by rw [hz2]; omega))
  rw [Nat.zero_add] at hrun
  have hG := grownCap_ge w N 0 3
  have hM := grownCap_le_maxLen w N 0 3 (by unfold maxLen; omega)
  unfold Oper.wp
  simp [execOp, ho, resolve, invoke, builtin, hs, hx, hrun, Result.andThen]
  generalize grownCap w N 0 3 = G at *
  refine h G _ hG hM ⟨rfl, .inr ⟨w.heap.size, G, _, rfl, Nat.le_refl _, heap_alloc_new w.drew _, Nat.zero_le _, hM, ?_, by simp [ics]⟩⟩ ?_
  · simp [Builtin.zeroCells, Value.cells]
    omega
  · exact (Below.refl _ _).drew.alloc (Nat.le_refl _) _
theorem wpList_grow0 {ops : Array Oper} {rest : List Oper} {o : Oper} {a : Act} {Q : Exit → Act → World → Prop} (w : World) (hgd : o.guard = none) (s x : Operand) (ho : o.op = .call { callee := .builtin .append, args := #[s, x], argTypes := #[22, 3] })
    (N : Nat) (hN : 1 ≤ N) (hN2 : N ≤ 1000000) (hs : a.eval s = .slice none 0 0) (hx : a.eval x = .int .i64 N)
    (h : ∀ c' w', N ≤ c' → c' ≤ maxLen → w'.ownsRow w.heap.size 3 1 (.slice (some ⟨w.heap.size, 0, none⟩) 0 c') 0 (ics []) → Below w.heap.size w w' → wpList Try.prog ops Q rest (a.put o.dst (.slice (some ⟨w.heap.size, 0, none⟩) N c')) w') :
    wpList Try.prog ops Q (o :: rest) a w :=
  wpList_plain hgd fun _ hK => wp_grow0 w s x ho N hN hN2 hs hx fun c' w' h1 h2 h3 h4 => hK _ _ (h c' w' h1 h2 h3 h4)

set_option maxRecDepth 100000 in
set_option maxHeartbeats 1600000 in
theorem slices_Grow0 (N : Nat) (w : World) (hN : 1 ≤ N) (hN2 : N ≤ 1000000) : Calls Try.prog 159 #[.slice none 0 0, .int .i64 N] w (GivI w []) := by
  have n0 : (0 : Int) < (N : Int) := by omega
  have n1 : (N : Int) ≤ 1000000 := by omega
  go_enter Try.func159, Try.ntmps159
  go_wp2_with (at_builtin; refine wpList_grow0 _ rfl _ _ rfl N hN hN2 rfl rfl ?_; intro c' w' h1 h2 h3 h4)
  have HE := Lib.hid (show GivI w [] (.returned (.slice (some ⟨w.heap.size, 0, none⟩) 0 c')) w' from ⟨some ⟨w.heap.size, 0, none⟩, c', rfl, h3, h4⟩)
  have c1 : (0 : Int) ≤ (c' : Int) := by omega
  clear h3 h4
  go_wp2
  go_ret
  exact HE.out
/-- rows, one after the other -/
def catL (Ls : List (List Int)) (k : Nat) : List Int := (Ls.take k).flatten
theorem catL_zero (Ls : List (List Int)) : catL Ls 0 = [] := by simp [catL]
theorem catL_succ (Ls : List (List Int)) (k : Nat) (h : k < Ls.length) : catL Ls (k + 1) = catL Ls k ++ rowOf Ls k := by
  unfold catL rowOf
  rw [List.take_succ_eq_append_getElem h, List.flatten_append]
  simp [h]
theorem catL_all (Ls : List (List Int)) : catL Ls Ls.length = Ls.flatten := by simp [catL]
theorem catL_length (Ls : List (List Int)) : ∀ k, k ≤ Ls.length → (catL Ls k).length = pre Ls k := by
  intro k
  induction k with
  | zero => intro _; rw [catL_zero, pre_zero]; rfl
  | succ k ih => intro h; rw [catL_succ Ls k (by omega), pre_succ Ls k (by omega), List.length_append, ih (by omega)]

set_option maxRecDepth 100000 in
set_option maxHeartbeats 3200000 in
theorem slices_Concat_any (A : Option Addr) (c B m : Nat) (Ls : List (List Int)) (w : World) (hm : Ls.length = m) (h : SlSS w B A Ls) (hB : B ≤ w.heap.size) (hm9 : m ≤ 9) (hm1 : 1 ≤ m)
    (hfirst : 1 ≤ (rowOf Ls 0).length) (hrow : ∀ j, j < m → (rowOf Ls j).length ≤ 12) :
    Calls Try.prog 114 #[.slice A m c] w (GivI w (catL Ls m)) := by
  obtain ⟨b, off, rfl, hbB, hcell⟩ := h (by omega)
  have HC := Lib.hid hcell
  have Hrow := Lib.hid hrow
  have Hm := Lib.hid hm
  have hpre : ∀ k, k ≤ m → pre Ls k ≤ 12 * k := by
    intro k
    induction k with
    | zero => intro _; rw [pre_zero]; omega
    | succ k ih =>
      intro hk
      rw [pre_succ Ls k (by omega)]
      have h1 := hrow k (by omega)
      have h2 := ih (by omega)
      omega
  have hpre1 : 1 ≤ pre Ls m := by
    have h1 := pre_le Ls 1 (m - 1) (by omega)
    rw [show 1 + (m - 1) = m by omega] at h1
    have h2 := pre_succ Ls 0 (by omega)
    rw [pre_zero] at h2
    have h3 := hfirst
    have h4 : pre Ls (0 + 1) = pre Ls 1 := rfl
    omega
  have Hpre := Lib.hid hpre
  have Hpre1 := Lib.hid hpre1
  have mm : (m : Int) ≤ 9 := by omega
  have hbw : b < w.heap.size := by omega
  clear hcell hrow hm h hpre hpre1
  go_enter Try.func114, Try.ntmps114
  go_wp2
  go_loopw [3, 5, 11] (fun s _ i wr => ∃ k : Nat, k ≤ m ∧ i = .int .i64 k ∧ s = .int .i64 (pre Ls k) ∧ wr = w) (fun _ _ i _ => m - (intOf i).toNat)
  case atStart => exact ⟨0, Nat.zero_le _, rfl, by rw [pre_zero]; rfl, rfl⟩
  case round =>
    obtain ⟨k, hk, rfl, rfl, rfl⟩ := hrel
    obtain ⟨w, hww⟩ : ∃ w, w = wr := ⟨_, rfl⟩
    subst hww
    by_cases hlt : k < m
    · obtain ⟨Aj, cj, hcj, hsj⟩ := HC.out k (by rw [Hm.out]; exact hlt)
      have k0 : (0 : Int) ≤ (k : Int) := by omega
      have k1 : (k : Int) < (m : Int) := by omega
      have hps := pre_succ Ls k (by rw [Hm.out]; exact hlt)
      have hp1 := Hpre.out (k + 1) (by omega)
      have Hps := Lib.hid hps
      have p1 : (pre Ls k : Int) ≤ 200 := by have := Hpre.out k hk; omega
      have r1 : ((rowOf Ls k).length : Int) ≤ 12 := by have := Hrow.out k hlt; omega
      clear hps hp1 hsj
      generalize pre Ls k = P at *
      generalize (rowOf Ls k).length = r at *
      have p0 : ¬ (P : Int) + (r : Int) < 0 := by omega
      go_wp2
      go_roundw
      case rel => exact ⟨k + 1, by omega, by go_num, by rw [Hps.out]; go_num, trivial⟩
      case measure => simp [intOf]; omega
    · obtain rfl : k = m := by omega
      obtain ⟨N, hN⟩ : ∃ N, pre Ls k = N := ⟨_, rfl⟩
      have hN1 : 1 ≤ N := by rw [← hN]; exact Hpre1.out
      have hN2 : N ≤ 200 := by have := Hpre.out k (Nat.le_refl _); omega
      rw [hN]
      clear hN
      go_wp2_with fail
      refine (slices_Grow0 N _ hN1 (by omega)).mono ?_
      rintro e w2 ⟨A2, c2, rfl, ho2, hb2⟩
      have Ho2 := Lib.hid ho2
      have Hb2 := Lib.hid hb2
      clear ho2 hb2
      go_wp2
      go_loopw [6, 8, 27] (fun v _ i wr => ∃ (t : Nat) (L : List Int) (A' : Option Addr) (c' : Nat), t ≤ k ∧ i = .int .i64 t ∧ L = catL Ls t ∧ v = .slice A' L.length c' ∧ wr.ownsRow w.heap.size 3 1 (.slice A' L.length c') L.length (ics L) ∧ Below w.heap.size w wr) (fun _ _ i _ => k - (intOf i).toNat)
      case atStart => exact ⟨0, [], A2, c2, Nat.zero_le _, rfl, (catL_zero Ls).symm, rfl, Ho2.out, Hb2.out⟩
      case round =>
        clear Ho2 Hb2
        obtain ⟨t, L, A', c', ht, rfl, hL, rfl, ho, hb⟩ := hrel
        by_cases hlt : t < k
        · obtain ⟨Aj, cj, hcj, hsj⟩ := HC.out t (by rw [Hm.out]; exact hlt)
          have k0 : (0 : Int) ≤ (t : Int) := by omega
          have k1 : (t : Int) < (k : Int) := by omega
          have hst := catL_succ Ls t (by rw [Hm.out]; exact hlt)
          rw [← hL] at hst
          have hLl : L.length ≤ 200 := by
            have h1 := catL_length Ls t (by rw [Hm.out]; omega)
            have h2 := Hpre.out t (by omega)
            rw [hL, h1]
            omega
          have hr12 := Hrow.out t hlt
          replace hcj : wr.cell? ⟨b, off + t, none⟩ = some (.slice Aj (rowOf Ls t).length cj) := (hb.cell (p := ⟨b, off + t, none⟩) hbw).trans hcj
          have hsj2 := hsj.below (hb.mono hB)
          have yb : b < wr.heap.size := Nat.lt_of_lt_of_le hbw hb.size
          have hbase := hb.size
          have Hob := Lib.hid ho.lt
          obtain ⟨r, hr⟩ : ∃ r, r = rowOf Ls t := ⟨_, rfl⟩
          rw [← hr] at hcj hsj2 hst hr12
          have Hst := Lib.hid hst
          have Ho := Lib.hid ho
          have Hb := Lib.hid hb
          have Hs := Lib.hid hsj2
          clear hst ho hb hL hsj hsj2 hr
          go_wp2_with (at_builtin; refine wpList_appendNI _ rfl _ _ rfl w.heap.size (.slice A' L.length c') L.length L rfl rfl Ho.out Aj r.length cj r B (L ++ r).length (by simp) rfl rfl Hs.out (by omega) (by omega) hbase ?_; intro A3 c3 w3 own3 hg3)
          have hb7 := Hb.out.grown hg3 hbase (fun j hj => (Hob.out j hj).1)
          have hlen : L.length + r.length = (catL Ls (t + 1)).length := by rw [Hst.out]; simp
          rw [← Hst.out] at own3
          have Hlen := Lib.hid hlen
          clear hg3 hlen Ho Hb Hs Hob
          go_roundw
          case rel => exact ⟨t + 1, _, A3, c3, by omega, by go_num, rfl, by rw [Hlen.out], own3, hb7⟩
          case measure => simp [intOf]; omega
        · obtain rfl : t = k := by omega
          have hE : GivI w (catL Ls t) (.returned (.slice A' L.length c')) wr := by
            rw [← hL]
            exact ⟨A', c', rfl, ho, hb⟩
          have HE := Lib.hid hE
          clear hE ho hb hL
          go_wp2
          go_ret
          exact HE.out
theorem slices_Concat (A : Option Addr) (c B m : Nat) (Ls : List (List Int)) (w : World) (hm : Ls.length = m) (h : SlSS w B A Ls) (hB : B ≤ w.heap.size) (hm9 : m ≤ 9) (hm1 : 1 ≤ m)
    (hrow : ∀ j, j < m → 1 ≤ (rowOf Ls j).length ∧ (rowOf Ls j).length ≤ 12) :
    Calls Try.prog 114 #[.slice A m c] w (GivI w (catL Ls m)) :=
  slices_Concat_any A c B m Ls w hm h hB hm9 hm1 (hrow 0 (by omega)).1 fun j hj => (hrow j hj).2
end Go.Proofs.Ytnoddecligmjbaa
