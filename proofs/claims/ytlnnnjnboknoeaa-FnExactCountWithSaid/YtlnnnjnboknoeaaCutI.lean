/- The program's cuts: allCorners, slices.Index, cutPiece (which panics with a diagonal that no piece has), cutApart (which recovers). -/
import Derived.Test.YtlnnnjnboknoeaaLawPS
import Derived.Test.YtlnnnjnboknoeaaPcN
import Derived.Test.YtlnnnjnboknoeaaGrwI
import Derived.Test.YtlnnnjnboknoeaaCntM
import Derived.Test.YtlnnnjnboknoeaaTriI
import Derived.Deep.QuietTactic
import Derived.BigQuiet
import Derived.Defers
import Derived.Recover
namespace Go.Proofs.Ytlnnnjnboknoeaa
set_option linter.unusedVariables false
open Go.RowKit

theorem corI_length (n : Nat) : (corI n).length = n := by simp [corI]
theorem corI_fil (n : Nat) : filF (fun i => i) n n = corI n := by
  unfold filF corI
  refine List.map_congr_left fun i hi => ?_
  rw [if_pos (List.mem_range.1 hi)]
set_option maxHeartbeats 1600000 in
theorem impl_allCorners (n : Nat) (w : World) (hn : n ≤ 1000) :
    Calls Try.prog 94 #[.int .i64 n] w fun e w' => e = .returned (.slice (some ⟨w.heap.size, 0, none⟩) n n) ∧ w'.ownsRow w.heap.size 3 1 (.slice (some ⟨w.heap.size, 0, none⟩) n n) n (ics (corI n)) ∧ Below w.heap.size w w' := by
  obtain ⟨i0, hi, hz0, hz1, hz2⟩ := info_parts infoI
  have hbytes : i0.bytes * n ≤ 281474976710656 := by rw [hz2]; omega
  have hmax : n ≤ maxLen := by unfold maxLen; omega
  go_enter Try.func94, Try.ntmps94
  go_wp2_with (at_make; refine wpList_make_full _ rfl _ _ _ rfl w.heap.size 3 i0 (.int .i64 0) 1 Try.underlying35 hi hz0 hz1 _ _ _ _ n rfl rfl rfl rfl hbytes hmax (Nat.le_refl _) ?_; intro w1 hown1 hgrow1)
  have hb1 : Below w.heap.size w w1 := (Below.refl _ _).grown hgrow1 (Nat.le_refl _) (by simp)
  have e1 : (madeCells (Value.int .i64 0).cells (n * 1)).toList = ics (filF (fun i => i) n 0) := by
    rw [Nat.mul_one]
    show (madeCells #[Value.int .i64 0] n).toList = _
    rw [toList_madeCells_one, filF_zero]
    simp [ics]
  rw [e1] at hown1
  clear e1 hgrow1
  go_wp2
  go_loopw [4, 9] (fun _ i wr => ∃ k : Nat, k ≤ n ∧ i = .int .i64 k ∧ wr.ownsRow w.heap.size 3 1 (.slice (some ⟨w.heap.size, 0, none⟩) n n) n (ics (filF (fun i => i) n k)) ∧ Below w.heap.size w wr) (fun _ i _ => n - (intOf i).toNat)
  case atStart => exact ⟨0, Nat.zero_le _, rfl, hown1, hb1⟩
  case round =>
    obtain ⟨k, hk, rfl, ho, hb⟩ := hrel
    by_cases hlt : k < n
    · have hll := filF_length (fun i => i) n k
      have hcell : wr.cell? ⟨w.heap.size, k, none⟩ = some (.int .i64 ((filF (fun i => i) n k).getD k 0)) := by
        rw [ho.cellAt k (by omega), ics_get _ _ (by rw [hll]; exact hlt)]
      have hfro := ho.frozenAt k
      have hst := ho.stored k (.int .i64 ((k : Nat) : Int))
      rw [ics_set, filF_set (fun i => i)] at hst
      obtain ⟨hs1, hs2⟩ := hst
      have hb2 := hb.grown hs2 hb.size (by simp)
      have k1 : (k : Int) < (n : Int) := by omega
      have HS := Lib.hid hs1
      have HB := Lib.hid hb2
      clear ho hs2 hown1 hb1 hll hb hs1 hb2
      generalize (filF (fun i => i) n k).getD k 0 = z at *
      go_wp2
      go_roundw
      case rel => exact ⟨k + 1, by omega, by go_num, HS.out, HB.out⟩
      case measure => simp [intOf]; omega
    · obtain rfl : k = n := by omega
      rw [corI_fil] at ho
      clear hown1 hb1
      go_wp2
      go_ret
      exact ⟨rfl, ho, hb⟩

/-- where a number lies first, or -1 -/
def ixI (l : List Int) (x : Int) : Int := if x ∈ l then (l.idxOf x : Int) else -1
theorem ixI_no {l : List Int} {x : Int} (h : x ∉ l) : ixI l x = -1 := if_neg h
theorem ixI_at {l : List Int} {x : Int} {k : Nat} (hk : k < l.length) (h1 : x ∉ l.take k) (h2 : l.getD k 0 = x) : ixI l x = (k : Int) := by
  have e : l[k] = x := by simpa [hk] using h2
  have hm : x ∈ l := by rw [← e]; exact List.getElem_mem hk
  unfold ixI
  rw [if_pos hm]
  have hs : l = l.take k ++ l[k] :: l.drop (k + 1) := by rw [← List.drop_eq_getElem_cons hk, List.take_append_drop]
  rw [hs, List.idxOf_append, if_neg h1, e]
  simp
  omega
theorem ixI_yes {l : List Int} {x : Int} (h : x ∈ l) : ∃ k : Nat, ∃ hk : k < l.length, ixI l x = (k : Int) ∧ l[k] = x := by
  have hk := List.idxOf_lt_length_of_mem h
  exact ⟨l.idxOf x, hk, if_pos h, List.getElem_idxOf hk⟩
theorem take_snocI {l : List Int} {k : Nat} (hk : k < l.length) {x : Int} (h1 : x ∉ l.take k) (h2 : l.getD k 0 ≠ x) : x ∉ l.take (k + 1) := by
  rw [List.take_succ_eq_append_getElem hk, List.mem_append, List.mem_singleton]
  rintro (h | h)
  · exact h1 h
  · exact h2 (by simp [hk, h])
set_option maxHeartbeats 1600000 in
theorem slices_IndexI_x (A : Option Addr) (n c B : Nat) (l : List Int) (x : Int) (w : World) (hl : l.length = n) (h : SlI w B A l) (hn9 : n ≤ 1000000) :
    Calls Try.prog 114 #[.slice A n c, .int .i64 x] w fun e w' => e = .returned (.int .i64 (ixI l x)) ∧ ∃ z, w' = w.drewN z := by
  have Hl := Lib.hid hl
  have H := Lib.hid h
  clear hl h
  go_enter Try.func114, Try.ntmps114
  go_wp2
  go_loop [5, 8] (fun _ i => ∃ k : Nat, k ≤ n ∧ i = .int .i64 k ∧ x ∉ l.take k) (fun _ i => n - (intOf i).toNat)
  case atStart => exact ⟨0, Nat.zero_le _, rfl, by simp⟩
  case round =>
    obtain ⟨k, hk, rfl, hno⟩ := hrel
    by_cases hlt : k < n
    · obtain ⟨b, off, rfl, hbB, hc⟩ := H.out (by have := Hl.out; omega)
      have g0 := hc k (by rw [Hl.out]; exact hlt)
      have hkl : k < l.length := by rw [Hl.out]; exact hlt
      have i0 : (0 : Int) ≤ (k : Int) := by omega
      have i1 : (k : Int) < (n : Int) := by omega
      have hnx := take_snocI hkl hno
      have hat := ixI_at hkl hno
      have Hnx := Lib.hid hnx
      have Hat := Lib.hid hat
      clear hc hnx hat hno
      generalize l.getD k 0 = y at *
      by_cases e : y = x
      · subst e
        have HE := Lib.hid (Hat.out rfl)
        clear Hat Hnx
        have e2 : (y == y) = true := by simp
        go_wp2
        go_ret
        exact ⟨ret_int HE.out.symm, 0, rfl⟩
      · have e' : (x == y) = false := by simpa using fun h => e h.symm
        go_wp2
        go_round
        case rel => exact ⟨k + 1, by omega, by go_num, Hnx.out e⟩
        case measure => simp [intOf]; omega
    · obtain rfl : k = n := by omega
      have hx : x ∉ l := by rw [← Hl.out, List.take_length] at hno; exact hno
      have HE := Lib.hid (ixI_no hx)
      clear hno hx
      go_wp2
      go_ret
      exact ⟨ret_int HE.out.symm, 0, rfl⟩

section
variable {ops : Array Oper} {rest : List Oper} {o : Oper} {a : Act} {Q : Exit → Act → World → Prop}
/-- append of one row's value to the outer row, inside a drawn region -/
theorem step_append1SS {K : Act → World → Prop} {E : Prop} (w : World) (hgd : o.guard = none) (s x : Operand) (ho : o.op = .call { callee := .builtin .append, args := #[s, x], argTypes := #[29, 29] })
    (base : Nat) (v : Value) (n : Nat) (rs : List Value) (hs : a.eval s = v) (hown : w.ownsRow base 35 1 v n rs) (g : Nat) (r : Value) (hr : r.oneCell' = true) (hx : a.eval x = .slice (some ⟨g, 0, none⟩) 1 1)
    (hc : w.cell? ⟨g, 0, none⟩ = some r) (hlen : n ≤ 1000000) (hbase : base ≤ w.heap.size)
    (h : ∀ A' c' w', w'.ownsRow base 35 1 (.slice A' (n + 1) c') (n + 1) (rs ++ [r]) → w.grownBy w' v.ownBlock → K (a.put o.dst (.slice A' (n + 1) c')) w') :
    if Region.wanted o (yielded ops a.tmps) = true then Oper.wp Try.prog o a w K Q else E := by
  have hw : Region.wanted o (yielded ops a.tmps) = true := by simp [Region.wanted, hgd]
  rw [if_pos hw]
  obtain ⟨i0, hi, hz0, hz1, hz2⟩ := info_parts infoSl
  refine wp_append_own w s x 29 ho base 35 i0 (.slice none 0 0) 1 24 Try.underlying29 hi hz0 hz1 hz2 rfl (by decide) v n rs hs hown ⟨g, 0, none⟩ 1 1 [r] hx rfl ?_ ?_ ?_ ?_ hbase ?_
  · intro j u hu
    match j, hu with
    | 0, hu =>
      rw [Addr.add_zero', hc]
      simpa using hu
  · intro u hu
    simp at hu
    subst hu
    exact hr
  · unfold maxLen; omega
  · omega
  · intro v' w' hown' hg _
    obtain ⟨A', c', rfl⟩ := own_form hown'
    exact h A' c' w' hown' hg
end

/-- the panic that a diagonal without a piece raises -/
def crP (x y : Int) : Value := .iface 49 (.agg #[.int .i64 x, .int .i64 y])
/-- what cutPiece ends in -/
def CpE (base : Nat) (w : World) (x y : Int) (O : Option (List (List Int))) (e : Ending) (w' : World) : Prop :=
  Below base w w' ∧ match O with
    | some Ls' => ∃ A c rs, e = .returned (.slice A Ls'.length c) ∧ OwnPS w' base A c rs Ls'
    | none => e = .panicked [{ v := crP x y, recovered := false }]
theorem hasB_take {Ls : List (List Int)} {d : Int × Int} {k : Nat} (hk : k < Ls.length) (hno : ∀ j, j < k → hasB d (rowOf Ls j) = false) (h : hasB d (rowOf Ls k) = true) : Ls.findIdx? (hasB d) = some k := by
  rw [List.findIdx?_eq_some_iff_getElem]
  have e : ∀ j (hj : j < Ls.length), rowOf Ls j = Ls[j] := fun j hj => by simp [rowOf, hj]
  refine ⟨hk, by rw [← e k hk]; exact h, fun j hj => ?_⟩
  rw [← e j (by omega), hno j hj]
  simp
theorem hasB_none {Ls : List (List Int)} {d : Int × Int} (hno : ∀ j, j < Ls.length → hasB d (rowOf Ls j) = false) : Ls.findIdx? (hasB d) = none := by
  rw [List.findIdx?_eq_none_iff]
  intro x hx
  obtain ⟨j, hj, rfl⟩ := List.getElem_of_mem hx
  have e : rowOf Ls j = Ls[j] := by simp [rowOf, hj]
  rw [← e]; exact hno j hj
end Go.Proofs.Ytlnnnjnboknoeaa
