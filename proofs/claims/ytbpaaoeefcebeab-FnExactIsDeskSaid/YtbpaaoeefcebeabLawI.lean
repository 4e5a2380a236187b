/- Contracts of the laws' own helpers over slices of numbers: compared, marked, held, copied, sized. -/
import Derived.Test.YtbpaaoeefcebeabDiag
import Derived.Deep.RegionHeld3
import Derived.Deep.QuietTactic
import Derived.BigQuiet
namespace Go.Proofs.Ytbpaaoeefcebeab
set_option linter.unusedVariables false
open Go.RowKit

set_option maxHeartbeats 800000 in
theorem laws_eqIntS (A A' : Option Addr) (c c' B B' : Nat) (l : List Int) (w : World) (h : SlI w B A l) (h' : SlI w B' A' l) (hl : l.length ≤ 1000000000) :
    Calls Try.prog 85 #[.slice A l.length c, .slice A' l.length c'] w fun e w' => e = .returned (.bool true) ∧ Below w.heap.size w w' := by
  go_enter Try.func85, Try.ntmps85
  go_wp2
  go_loopw [5] (fun i wr => ∃ k : Nat, k ≤ l.length ∧ i = .int .i64 k ∧ Below w.heap.size w wr ∧ SlI wr B A l ∧ SlI wr B' A' l) (fun i _ => l.length - (intOf i).toNat)
  case atStart => exact ⟨0, Nat.zero_le _, rfl, Below.refl _ _, h, h'⟩
  case round =>
    obtain ⟨k, hk, rfl, hb, hA, hA'⟩ := hrel
    by_cases hlt : k < l.length
    · obtain ⟨b, off, rfl, hbB, hc⟩ := hA (by omega)
      obtain ⟨b', off', rfl, hbB', hc'⟩ := hA' (by omega)
      have g := hc k hlt
      have g' := hc' k hlt
      have i0 : (0 : Int) ≤ (k : Int) := by omega
      have i1 : (k : Int) < (l.length : Int) := by omega
      clear hc hc'
      go_wp2
      go_quiet (fail)
      go_wp2
      go_roundw
      case rel => exact ⟨k + 1, by omega, by go_num, below_drewN hb _, hA.drewN _, hA'.drewN _⟩
      case measure => simp [intOf]; omega
    · go_wp2
      go_ret
      exact ⟨rfl, hb⟩

/-- the marks from k on -/
def marksI (n : Nat) (k : Int) : List Int := (List.range n).map fun (i : Nat) => k + (i : Int)
theorem marksI_length (n : Nat) (k : Int) : (marksI n k).length = n := by simp [marksI]
theorem marksI_get (n : Nat) (k : Int) (j : Nat) (h : j < n) : (marksI n k).getD j 0 = k + (j : Int) := by simp [marksI, h]

set_option maxHeartbeats 800000 in
theorem laws_heldIntS (A : Option Addr) (c B n : Nat) (w : World) (h : SlI w B A (marksI n 1)) (hl : n ≤ 1000000000) :
    Calls Try.prog 87 #[.slice A n c, .int .i64 1] w fun e w' => e = .returned (.int .i64 ((n : Int) + 1)) ∧ w = w' := by
  go_enter Try.func87, Try.ntmps87
  go_wp2
  go_loop [1, 5] (fun q i => ∃ k : Nat, k ≤ n ∧ i = .int .i64 k ∧ q = .int .i64 ((k : Int) + 1)) (fun _ i => n - (intOf i).toNat)
  case atStart => exact ⟨0, Nat.zero_le _, rfl, rfl⟩
  case round =>
    obtain ⟨k, hk, rfl, rfl⟩ := hrel
    by_cases hlt : k < n
    · obtain ⟨b, off, rfl, hbB, hc⟩ := h (by rw [marksI_length]; omega)
      have g := hc k (by rw [marksI_length]; omega)
      rw [marksI_get n 1 k hlt, show (1 : Int) + (k : Int) = (k : Int) + 1 by omega] at g
      clear hc h
      go_wp2
      go_round
      case rel => exact ⟨k + 1, by omega, by go_num, by go_num⟩
      case measure => simp [intOf]; omega
    · obtain rfl : k = n := by omega
      go_wp2
      go_ret
      exact ⟨rfl, rfl⟩

/-- behind k marks: the first k are marks from 1 on, the others as they were -/
def halfI (l : List Int) (k : Nat) : List Int := marksI k 1 ++ l.drop k
theorem halfI_length (l : List Int) (k : Nat) (h : k ≤ l.length) : (halfI l k).length = l.length := by simp [halfI, marksI_length]; omega
theorem halfI_zero (l : List Int) : halfI l 0 = l := by simp [halfI, marksI]
theorem halfI_all (l : List Int) : halfI l l.length = marksI l.length 1 := by simp [halfI]
theorem marksI_succ (k : Nat) (a : Int) : marksI (k + 1) a = marksI k a ++ [a + (k : Int)] := by simp [marksI, List.range_succ]
theorem halfI_succ (l : List Int) (k : Nat) (h : k < l.length) : (halfI l k).set k ((k : Int) + 1) = halfI l (k + 1) := by
  unfold halfI
  rw [marksI_succ, List.set_append_right _ _ (by simp [marksI_length])]
  simp only [marksI_length, Nat.sub_self, List.append_assoc]
  congr 1
  rw [List.drop_eq_getElem_cons h, List.set_cons_zero, Int.add_comm]
  rfl

set_option maxHeartbeats 800000 in
theorem laws_markIntS (g cap base e : Nat) (l : List Int) (w : World) (h : w.ownsRow base e 1 (.slice (some ⟨g, 0, none⟩) l.length cap) l.length (ics l)) (hl : l.length ≤ 1000000000) :
    Calls Try.prog 86 #[.slice (some ⟨g, 0, none⟩) l.length cap, .int .i64 1] w fun r w' => r = .returned (.int .i64 ((l.length : Int) + 1)) ∧
      w'.ownsRow base e 1 (.slice (some ⟨g, 0, none⟩) l.length cap) l.length (ics (marksI l.length 1)) ∧ w.grownBy w' (some g) := by
  go_enter Try.func86, Try.ntmps86
  go_wp2
  go_loopw [1, 5] (fun q i wr => ∃ k : Nat, k ≤ l.length ∧ i = .int .i64 k ∧ q = .int .i64 ((k : Int) + 1) ∧ wr.ownsRow base e 1 (.slice (some ⟨g, 0, none⟩) l.length cap) l.length (ics (halfI l k)) ∧ w.grownBy wr (some g)) (fun _ i _ => l.length - (intOf i).toNat)
  case atStart => exact ⟨0, Nat.zero_le _, rfl, rfl, by rw [halfI_zero]; exact h, World.grownBy.refl w _⟩
  case round =>
    obtain ⟨k, hk, rfl, rfl, ho, hg⟩ := hrel
    by_cases hlt : k < l.length
    · have hcell : wr.cell? ⟨g, k, none⟩ = some (.int .i64 ((halfI l k).getD k 0)) := by
        rw [ho.cellAt k (by omega), ics_get _ _ (by rw [halfI_length l k hk]; exact hlt)]
      have hfro := ho.frozenAt k
      have hst := ho.stored k (.int .i64 ((k : Int) + 1))
      rw [ics_set, halfI_succ l k hlt] at hst
      obtain ⟨hs1, hs2⟩ := hst
      have hs3 := hg.trans hs2
      clear ho h hs2 hg
      go_wp2
      go_roundw
      case rel => exact ⟨k + 1, by omega, by go_num, by go_num, hs1, hs3⟩
      case measure => simp [intOf]; omega
    · obtain rfl : k = l.length := by omega
      rw [halfI_all] at ho
      go_wp2
      go_ret
      exact ⟨rfl, ho, hg⟩

theorem laws_markIntS_nil (c : Nat) (w : World) : Calls Try.prog 86 #[.slice none 0 c, .int .i64 1] w fun r w' => r = .returned (.int .i64 1) ∧ w = w' := by
  go_enter Try.func86, Try.ntmps86
  go_wp2
  refine wp_loop_rounds 1 ?_
  rw [rounds_succ]
  go_wp2
  go_ret
  exact ⟨rfl, rfl⟩

theorem laws_markIntS_any (v : Value) (base e : Nat) (l : List Int) (w : World) (h : w.ownsRow base e 1 v l.length (ics l)) (hl : l.length ≤ 1000000000) :
    Calls Try.prog 86 #[v, .int .i64 1] w fun r w' => r = .returned (.int .i64 ((l.length : Int) + 1)) ∧
      w'.ownsRow base e 1 v l.length (ics (marksI l.length 1)) ∧ w.grownBy w' v.ownBlock := by
  have h0 := h
  rcases h.2 with ⟨rfl, hn⟩ | ⟨g, cap, cur, rfl, r⟩
  · obtain rfl : l = [] := List.eq_nil_of_length_eq_zero hn
    refine (laws_markIntS_nil 0 w).mono ?_
    rintro r w' ⟨rfl, rfl⟩
    exact ⟨rfl, h0, World.grownBy.refl w _⟩
  · exact (laws_markIntS g cap base e l w h0 hl)

/-- a slice's value that owns its numbers reads as them -/
theorem own_form {w : World} {base e size n : Nat} {v : Value} {xs : List Value} (h : w.ownsRow base e size v n xs) : ∃ A c, v = .slice A n c := by
  rcases h.2 with ⟨rfl, rfl⟩ | ⟨g, cap, cur, rfl, _⟩
  · exact ⟨none, 0, rfl⟩
  · exact ⟨_, _, rfl⟩

theorem laws_szIntS (A : Option Addr) (n c : Nat) (w : World) (hn : n ≤ maxLen) :
    Calls Try.prog 88 #[.slice A n c, .int .i64 1048576] w fun e w' => e = .returned (.int .i64 (if n ≤ 1048576 then 1048576 - (n : Int) else -1)) ∧ w = w' := by
  unfold maxLen at hn
  by_cases h : n ≤ 1048576
  · have h1 : ¬ (1048576 : Int) - (n : Int) < 0 := by omega
    rw [if_pos h]
    go_enter Try.func88, Try.ntmps88
    go_wp2
    go_ret
    exact ⟨rfl, rfl⟩
  · have h1 : (1048576 : Int) - (n : Int) < 0 := by omega
    rw [if_neg h]
    go_enter Try.func88, Try.ntmps88
    go_wp2
    go_ret
    exact ⟨rfl, rfl⟩

theorem laws_szDiagonalS (A : Option Addr) (n c : Nat) (w : World) (hn : n ≤ maxLen) :
    Calls Try.prog 15 #[.slice A n c, .int .i64 1048576] w fun e w' => e = .returned (.int .i64 (if n ≤ 1048576 then 1048576 - (n : Int) else -1)) ∧ w = w' := by
  unfold maxLen at hn
  by_cases h : n ≤ 1048576
  · have h1 : ¬ (1048576 : Int) - (n : Int) < 0 := by omega
    rw [if_pos h]
    go_enter Try.func15, Try.ntmps15
    go_wp2
    go_ret
    exact ⟨rfl, rfl⟩
  · have h1 : (1048576 : Int) - (n : Int) < 0 := by omega
    rw [if_neg h]
    go_enter Try.func15, Try.ntmps15
    go_wp2
    go_ret
    exact ⟨rfl, rfl⟩

theorem infoI : (Try.prog.info? 3).map (fun i => (i.zero, i.size, i.bytes)) = some (some (.int .i64 0), 1, 8) := by kernel_rfl

/-- behind k copies -/
def copyI (l : List Int) (k : Nat) : List Int := l.take k ++ List.replicate (l.length - k) 0
theorem copyI_length (l : List Int) (k : Nat) (h : k ≤ l.length) : (copyI l k).length = l.length := by simp [copyI]; omega
theorem copyI_zero (l : List Int) : copyI l 0 = List.replicate l.length 0 := by simp [copyI]
theorem copyI_all (l : List Int) : copyI l l.length = l := by simp [copyI]
theorem copyI_succ (l : List Int) (k : Nat) (h : k < l.length) : (copyI l k).set k (l.getD k 0) = copyI l (k + 1) := by
  unfold copyI
  have hk : (l.take k).length = k := by simp; omega
  rw [List.set_append_right _ _ (by omega), hk, Nat.sub_self, show l.length - k = (l.length - (k + 1)) + 1 by omega, List.replicate_succ, List.set_cons_zero,
    List.take_succ_eq_append_getElem h, List.append_assoc]
  simp [h]

set_option maxHeartbeats 800000 in
theorem laws_toIntS (A : Option Addr) (c B : Nat) (l : List Int) (w : World) (h : SlI w B A l) (hB : B ≤ w.heap.size) (hl : l.length ≤ 1048576) :
    Calls Try.prog 90 #[.slice A l.length c] w fun e w' => e = .returned (.slice (some ⟨w.heap.size, 0, none⟩) l.length l.length) ∧
      w'.ownsRow w.heap.size 3 1 (.slice (some ⟨w.heap.size, 0, none⟩) l.length l.length) l.length (ics l) ∧ Below w.heap.size w w' := by
  obtain ⟨i0, hi, hz0, hz1, hz2⟩ := info_parts infoI
  have hbytes : i0.bytes * l.length ≤ 281474976710656 := by rw [hz2]; omega
  have hmax : l.length ≤ maxLen := by unfold maxLen; omega
  go_enter Try.func90, Try.ntmps90
  go_wp2_with (at_make; refine wpList_make_full _ rfl _ _ _ rfl w.heap.size 3 i0 (.int .i64 0) 1 Try.underlying50 hi hz0 hz1 _ _ _ _ l.length rfl rfl rfl rfl hbytes hmax (Nat.le_refl _) ?_; intro w1 hown1 hgrow1)
  have hb1 : Below w.heap.size w w1 := (Below.refl _ _).grown hgrow1 (Nat.le_refl _) (by simp)
  have e1 : (madeCells (Value.int .i64 0).cells (l.length * 1)).toList = ics (copyI l 0) := by
    rw [copyI_zero, Nat.mul_one]
    show (madeCells #[Value.int .i64 0] l.length).toList = _
    rw [toList_madeCells_one]
    simp [ics]
  rw [e1] at hown1
  have hA1 := h.below (hb1.mono hB)
  clear e1 hgrow1 h
  go_wp2
  go_loopw [4] (fun i wr => ∃ k : Nat, k ≤ l.length ∧ i = .int .i64 k ∧ wr.ownsRow w.heap.size 3 1 (.slice (some ⟨w.heap.size, 0, none⟩) l.length l.length) l.length (ics (copyI l k)) ∧ Below w.heap.size w wr ∧ SlI wr B A l) (fun i _ => l.length - (intOf i).toNat)
  case atStart => exact ⟨0, Nat.zero_le _, rfl, hown1, hb1, hA1⟩
  case round =>
    obtain ⟨k, hk, rfl, ho, hb, hA⟩ := hrel
    by_cases hlt : k < l.length
    · obtain ⟨b, off, rfl, hbB, hc⟩ := hA (by omega)
      have g := hc k hlt
      have hcell : wr.cell? ⟨w.heap.size, k, none⟩ = some (.int .i64 ((copyI l k).getD k 0)) := by
        rw [ho.cellAt k (by omega), ics_get _ _ (by rw [copyI_length l k hk]; exact hlt)]
      have hfro := ho.frozenAt k
      have hst := ho.stored k (.int .i64 (l.getD k 0))
      rw [ics_set, copyI_succ l k hlt] at hst
      obtain ⟨hs1, hs2⟩ := hst
      have hb2 := hb.setCell (p := ⟨w.heap.size, k, none⟩) (Nat.le_refl _) (.int .i64 (l.getD k 0))
      have hA2 : SlI (wr.setCell ⟨w.heap.size, k, none⟩ (.int .i64 (l.getD k 0))) B (some ⟨b, off, none⟩) l := hA.keep fun b o hb => World.cell?_setCell_other _ _ _ _ (by intro e; injection e with e; omega)
      clear ho hs2 hc hown1 hb1 hA1
      generalize l.getD k 0 = x at *
      go_wp2
      go_roundw
      case rel => exact ⟨k + 1, by omega, by go_num, hs1, hb2, hA2⟩
      case measure => simp [intOf]; omega
    · obtain rfl : k = l.length := by omega
      rw [copyI_all] at ho
      go_wp2
      go_ret
      exact ⟨rfl, ho, hb⟩

end Go.Proofs.Ytbpaaoeefcebeab
