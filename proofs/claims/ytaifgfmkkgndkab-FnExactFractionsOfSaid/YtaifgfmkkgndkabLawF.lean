/- The laws' own helpers over fractions and lists of them: copied, compared, marked, held, sized; how results of that kind are told. -/
import Derived.Test.YtaifgfmkkgndkabLawM
import Derived.Test.YtaifgfmkkgndkabNbB
import Derived.Test.YtaifgfmkkgndkabMatF
namespace Go.Proofs.Ytaifgfmkkgndkab
set_option linter.unusedVariables false
open Go.RowKit

theorem infoF : (Try.prog.info? 32).map (fun i => (i.zero, i.size, i.bytes)) = some (some (.agg #[.int .i64 0, .int .i64 0]), 2, 16) := by kernel_rfl

theorem laws_eqFraction (a b : Int) (w : World) :
    Calls Try.prog 22 #[.agg #[.int .i64 a, .int .i64 b], .agg #[.int .i64 a, .int .i64 b]] w fun e w' => e = .returned (.bool true) ∧ Below w.heap.size w w' := by
  go_enter Try.func22, Try.ntmps22
  go_wp2
  go_ret
  exact ⟨rfl, ((Below.refl _ _).alloc (Nat.le_refl _) _).alloc (by simp) _⟩

theorem laws_eqFractionS (A A' : Option Addr) (c c' B B' : Nat) (l : List (Int × Int)) (w : World) (h : SlD w B A l) (h' : SlD w B' A' l) (hB : B ≤ w.heap.size) (hB' : B' ≤ w.heap.size) (hl : l.length ≤ 1000000000) :
    Calls Try.prog 14 #[.slice A l.length c, .slice A' l.length c'] w fun e w' => e = .returned (.bool true) ∧ Below w.heap.size w w' := by
  go_enter Try.func14, Try.ntmps14
  go_wp2
  go_loopw [5] (fun i wr => ∃ k : Nat, k ≤ l.length ∧ i = .int .i64 k ∧ Below w.heap.size w wr) (fun i _ => l.length - (intOf i).toNat)
  case atStart => exact ⟨0, Nat.zero_le _, rfl, Below.refl _ _⟩
  case round =>
    obtain ⟨k, hk, rfl, hb⟩ := hrel
    by_cases hlt : k < l.length
    · have hA := h.below (hb.mono hB)
      have hA' := h'.below (hb.mono hB')
      obtain ⟨b, off, rfl, hbB, hc⟩ := hA (by omega)
      obtain ⟨b', off', rfl, hbB', hc'⟩ := hA' (by omega)
      obtain ⟨g0, g1⟩ := hc k hlt
      obtain ⟨g2, g3⟩ := hc' k hlt
      have i0 : (0 : Int) ≤ (k : Int) := by omega
      have i1 : (k : Int) < (l.length : Int) := by omega
      clear hc hc' h h' hA hA'
      generalize (l.getD k (0, 0)).1 = x at *
      generalize (l.getD k (0, 0)).2 = y at *
      go_wp2
      go_region_held3 (fun w' => w'.cell? ⟨b, off + k * 2, none⟩ = some (.int .i64 x) ∧ w'.cell? ⟨b, off + k * 2 + 1, none⟩ = some (.int .i64 y) ∧
          w'.cell? ⟨b', off' + k * 2, none⟩ = some (.int .i64 x) ∧ w'.cell? ⟨b', off' + k * 2 + 1, none⟩ = some (.int .i64 y) ∧ Below w.heap.size w w')
        (first
          | exact kept4 (by assumption) hb1 (Nat.le_refl _)
          | exact drew4 ⟨g0, g1, g2, g3, hb⟩)
        (first
          | (go_at_call 22; refine (laws_eqFraction _ _ _).mono ?_; rintro e w1 ⟨rfl, hb1⟩))
      rename_i hS
      obtain ⟨_, _, _, _, hd⟩ := hS
      clear hb1 hb
      go_wp2
      go_roundw
      case rel => exact ⟨k + 1, by omega, by go_num, hd⟩
      case measure => simp [intOf]; omega
    · go_wp2
      go_ret
      exact ⟨rfl, hb⟩

def copyF (l : List (Int × Int)) (k : Nat) : List (Int × Int) := l.take k ++ List.replicate (l.length - k) (0, 0)
theorem copyF_length (l : List (Int × Int)) (k : Nat) (h : k ≤ l.length) : (copyF l k).length = l.length := by simp [copyF]; omega
theorem copyF_zero (l : List (Int × Int)) : copyF l 0 = List.replicate l.length (0, 0) := by simp [copyF]
theorem copyF_all (l : List (Int × Int)) : copyF l l.length = l := by simp [copyF]
theorem copyF_succ (l : List (Int × Int)) (k : Nat) (h : k < l.length) : (copyF l k).set k (l.getD k (0, 0)) = copyF l (k + 1) := by
  unfold copyF
  have hk : (l.take k).length = k := by simp; omega
  rw [List.set_append_right _ _ (by omega), hk, Nat.sub_self, show l.length - k = (l.length - (k + 1)) + 1 by omega, List.replicate_succ, List.set_cons_zero,
    List.take_succ_eq_append_getElem h, List.append_assoc]
  simp [h]

set_option maxHeartbeats 800000 in
theorem laws_toFractionS (A : Option Addr) (c B : Nat) (l : List (Int × Int)) (w : World) (h : SlD w B A l) (hB : B ≤ w.heap.size) (hl : l.length ≤ 1048576) :
    Calls Try.prog 30 #[.slice A l.length c] w fun e w' => e = .returned (.slice (some ⟨w.heap.size, 0, none⟩) l.length l.length) ∧
      w'.ownsRow w.heap.size 32 2 (.slice (some ⟨w.heap.size, 0, none⟩) l.length l.length) l.length (dcs l) ∧ Below w.heap.size w w' := by
  obtain ⟨i0, hi, hz0, hz1, hz2⟩ := info_parts infoF
  have hbytes : i0.bytes * l.length ≤ 281474976710656 := by rw [hz2]; omega
  have hmax : l.length ≤ maxLen := by unfold maxLen; omega
  go_enter Try.func30, Try.ntmps30
  go_wp2_with (at_make; refine wpList_make_full _ rfl _ _ _ rfl w.heap.size 32 i0 (.agg #[.int .i64 0, .int .i64 0]) 2 Try.underlying22 hi hz0 hz1 _ _ _ _ l.length rfl rfl rfl rfl hbytes hmax (Nat.le_refl _) ?_; intro w1 hown1 hgrow1)
  have hb1 : Below w.heap.size w w1 := (Below.refl _ _).grown hgrow1 (Nat.le_refl _) (by simp)
  rw [dcs_zeros, ← copyF_zero] at hown1
  clear hgrow1
  go_wp2
  go_loopw [4] (fun i wr => ∃ k : Nat, k ≤ l.length ∧ i = .int .i64 k ∧ wr.ownsRow w.heap.size 32 2 (.slice (some ⟨w.heap.size, 0, none⟩) l.length l.length) l.length (dcs (copyF l k)) ∧ Below w.heap.size w wr) (fun i _ => l.length - (intOf i).toNat)
  case atStart => exact ⟨0, Nat.zero_le _, rfl, hown1, hb1⟩
  case round =>
    obtain ⟨k, hk, rfl, ho, hb⟩ := hrel
    by_cases hlt : k < l.length
    · have hA := h.below (hb.mono hB)
      obtain ⟨b, off, rfl, hbB, hc⟩ := hA (by omega)
      obtain ⟨g0, g1⟩ := hc k hlt
      have i0 : (0 : Int) ≤ (k : Int) := by omega
      have i1 : (k : Int) < (l.length : Int) := by omega
      have hcs := copyF_succ l k hlt
      have hkl : k < (copyF l k).length := by rw [copyF_length l k hk]; exact hlt
      clear hc hown1 hb1 hA h
      generalize l.getD k (0, 0) = d at *
      obtain ⟨x, y⟩ := d
      dsimp only at g0 g1
      go_wp2_with fail
      refine (laws_toFraction x y _).mono ?_
      rintro e w2 ⟨rfl, hb2⟩
      have ho2 := own_kept ho hb2
      have hd2 := below_kept hb (Nat.le_refl _) hb2
      have c0 : w2.cell? ⟨w.heap.size, k * 2, none⟩ = some (.int .i64 ((copyF l k).getD k (0, 0)).1) := by rw [ho2.cellAt _ (by omega), dcs_get0 _ _ hkl]
      have c1 : w2.cell? ⟨w.heap.size, k * 2 + 1, none⟩ = some (.int .i64 ((copyF l k).getD k (0, 0)).2) := by rw [ho2.cellAt _ (by omega), dcs_get1 _ _ hkl]
      have f0 := ho2.frozenAt (k * 2)
      have f1 := ho2.frozenAt (k * 2 + 1)
      obtain ⟨hs1, hs2⟩ := stored2 ho2 k hkl x y
      rw [hcs] at hs1
      have hd3 := hd2.grown hs2 hd2.size (by simp)
      clear ho ho2 hb hb2 hs2 hcs hd2 g0 g1
      generalize ((copyF l k).getD k (0, 0)).1 = z0 at *
      generalize ((copyF l k).getD k (0, 0)).2 = z1 at *
      go_wp2
      go_roundw
      case rel => exact ⟨k + 1, by omega, by go_num, hs1, hd3⟩
      case measure => simp [intOf]; omega
    · obtain rfl : k = l.length := by omega
      rw [copyF_all] at ho
      go_wp2
      go_ret
      exact ⟨rfl, ho, hb⟩

/-- the marks of a list of pairs, from 1 on -/
def marksF (n : Nat) : List (Int × Int) := (List.range n).map fun (i : Nat) => (2 * (i : Int) + 1, 2 * (i : Int) + 2)
theorem marksF_length (n : Nat) : (marksF n).length = n := by simp [marksF]
theorem marksF_get (n : Nat) (j : Nat) (h : j < n) : (marksF n).getD j (0, 0) = (2 * (j : Int) + 1, 2 * (j : Int) + 2) := by simp [marksF, h]
theorem marksF_succ (k : Nat) : marksF (k + 1) = marksF k ++ [(2 * (k : Int) + 1, 2 * (k : Int) + 2)] := by simp [marksF, List.range_succ]
def halfF (l : List (Int × Int)) (k : Nat) : List (Int × Int) := marksF k ++ l.drop k
theorem halfF_length (l : List (Int × Int)) (k : Nat) (h : k ≤ l.length) : (halfF l k).length = l.length := by simp [halfF, marksF_length]; omega
theorem halfF_zero (l : List (Int × Int)) : halfF l 0 = l := by simp [halfF, marksF]
theorem halfF_all (l : List (Int × Int)) : halfF l l.length = marksF l.length := by simp [halfF]
theorem halfF_succ (l : List (Int × Int)) (k : Nat) (h : k < l.length) : (halfF l k).set k (2 * (k : Int) + 1, 2 * (k : Int) + 2) = halfF l (k + 1) := by
  unfold halfF
  rw [marksF_succ, List.set_append_right _ _ (by simp [marksF_length])]
  simp only [marksF_length, Nat.sub_self, List.append_assoc]
  congr 1
  rw [List.drop_eq_getElem_cons h, List.set_cons_zero]
  rfl

set_option maxHeartbeats 1600000 in
theorem laws_markFractionS (g cap base e : Nat) (l : List (Int × Int)) (w : World) (h : w.ownsRow base e 2 (.slice (some ⟨g, 0, none⟩) l.length cap) l.length (dcs l)) (hl : l.length ≤ 1000000000) :
    Calls Try.prog 15 #[.slice (some ⟨g, 0, none⟩) l.length cap, .int .i64 1] w fun r w' => r = .returned (.int .i64 (2 * (l.length : Int) + 1)) ∧
      w'.ownsRow base e 2 (.slice (some ⟨g, 0, none⟩) l.length cap) l.length (dcs (marksF l.length)) ∧ w.grownBy w' (some g) := by
  go_enter Try.func15, Try.ntmps15
  go_wp2
  go_loopw [1, 5] (fun q i wr => ∃ k : Nat, k ≤ l.length ∧ i = .int .i64 k ∧ q = .int .i64 (2 * (k : Int) + 1) ∧ wr.ownsRow base e 2 (.slice (some ⟨g, 0, none⟩) l.length cap) l.length (dcs (halfF l k)) ∧ w.grownBy wr (some g)) (fun _ i _ => l.length - (intOf i).toNat)
  case atStart => exact ⟨0, Nat.zero_le _, rfl, rfl, by rw [halfF_zero]; exact h, World.grownBy.refl w _⟩
  case round =>
    obtain ⟨k, hk, rfl, rfl, ho, hg⟩ := hrel
    by_cases hlt : k < l.length
    · have hkl : k < (halfF l k).length := by rw [halfF_length l k hk]; exact hlt
      have c0 : wr.cell? ⟨g, k * 2, none⟩ = some (.int .i64 ((halfF l k).getD k (0, 0)).1) := by rw [ho.cellAt _ (by omega), dcs_get0 _ _ hkl]
      have c1 : wr.cell? ⟨g, k * 2 + 1, none⟩ = some (.int .i64 ((halfF l k).getD k (0, 0)).2) := by rw [ho.cellAt _ (by omega), dcs_get1 _ _ hkl]
      have f0 := ho.frozenAt (k * 2)
      have f1 := ho.frozenAt (k * 2 + 1)
      obtain ⟨hs1, hs2⟩ := stored2 ho k hkl (2 * (k : Int) + 1) (2 * (k : Int) + 2)
      rw [halfF_succ l k hlt] at hs1
      have hs3 := hg.trans hs2
      clear ho h hs2 hg
      generalize ((halfF l k).getD k (0, 0)).1 = z0 at *
      generalize ((halfF l k).getD k (0, 0)).2 = z1 at *
      have e2 : 2 * (k : Int) + 1 + 1 = 2 * (k : Int) + 2 := by omega
      have e3 : 2 * ((k + 1 : Nat) : Int) + 1 = 2 * (k : Int) + 2 + 1 := by omega
      have E3 := Lib.hid e3
      clear e3
      go_wp2
      go_roundw
      case rel => exact ⟨k + 1, by omega, by go_num, by rw [E3.out], hs1, hs3⟩
      case measure => simp [intOf]; omega
    · obtain rfl : k = l.length := by omega
      rw [halfF_all] at ho
      go_wp2
      go_ret
      exact ⟨rfl, ho, hg⟩

theorem laws_markFractionS_nil (c : Nat) (w : World) : Calls Try.prog 15 #[.slice none 0 c, .int .i64 1] w fun r w' => r = .returned (.int .i64 1) ∧ w = w' := by
  go_enter Try.func15, Try.ntmps15
  go_wp2
  refine wp_loop_rounds 1 ?_
  rw [rounds_succ]
  go_wp2
  go_ret
  exact ⟨rfl, rfl⟩

theorem laws_markFractionS_any (v : Value) (base e : Nat) (l : List (Int × Int)) (w : World) (h : w.ownsRow base e 2 v l.length (dcs l)) (hl : l.length ≤ 1000000000) :
    Calls Try.prog 15 #[v, .int .i64 1] w fun r w' => r = .returned (.int .i64 (2 * (l.length : Int) + 1)) ∧
      w'.ownsRow base e 2 v l.length (dcs (marksF l.length)) ∧ w.grownBy w' v.ownBlock := by
  have h0 := h
  rcases h.2 with ⟨rfl, hn⟩ | ⟨g, cap, cur, rfl, r⟩
  · obtain rfl : l = [] := List.eq_nil_of_length_eq_zero hn
    refine (laws_markFractionS_nil 0 w).mono ?_
    rintro r w' ⟨rfl, rfl⟩
    exact ⟨rfl, h0, World.grownBy.refl w _⟩
  · exact (laws_markFractionS g cap base e l w h0 hl)

set_option maxHeartbeats 1600000 in
theorem laws_heldFractionS (A : Option Addr) (c B n : Nat) (w : World) (h : SlD w B A (marksF n)) (hl : n ≤ 1000000000) :
    Calls Try.prog 16 #[.slice A n c, .int .i64 1] w fun e w' => e = .returned (.int .i64 (2 * (n : Int) + 1)) ∧ w = w' := by
  go_enter Try.func16, Try.ntmps16
  go_wp2
  go_loop [1, 5] (fun q i => ∃ k : Nat, k ≤ n ∧ i = .int .i64 k ∧ q = .int .i64 (2 * (k : Int) + 1)) (fun _ i => n - (intOf i).toNat)
  case atStart => exact ⟨0, Nat.zero_le _, rfl, rfl⟩
  case round =>
    obtain ⟨k, hk, rfl, rfl⟩ := hrel
    by_cases hlt : k < n
    · obtain ⟨b, off, rfl, hbB, hc⟩ := h (by rw [marksF_length]; omega)
      obtain ⟨g0, g1⟩ := hc k (by rw [marksF_length]; omega)
      rw [marksF_get n k hlt] at g0 g1
      dsimp only at g0 g1
      have e2 : 2 * (k : Int) + 1 + 1 = 2 * (k : Int) + 2 := by omega
      have e3 : 2 * ((k + 1 : Nat) : Int) + 1 = 2 * (k : Int) + 2 + 1 := by omega
      have E3 := Lib.hid e3
      clear hc h e3
      go_wp2
      go_round
      case rel => exact ⟨k + 1, by omega, by go_num, by rw [E3.out]⟩
      case measure => simp [intOf]; omega
    · obtain rfl : k = n := by omega
      go_wp2
      go_ret
      exact ⟨rfl, rfl⟩

def RetF (w : World) (L : List (Int × Int)) (ok : Bool) (e : Ending) (w' : World) : Prop :=
  ∃ A c, e = .returned (.tuple #[.slice A L.length c, .bool ok]) ∧ w'.ownsRow w.heap.size 32 2 (.slice A L.length c) L.length (dcs L) ∧ Below w.heap.size w w'

def GivF (w : World) (L : List (Int × Int)) (e : Ending) (w' : World) : Prop :=
  ∃ A c, e = .returned (.slice A L.length c) ∧ w'.ownsRow w.heap.size 32 2 (.slice A L.length c) L.length (dcs L) ∧ Below w.heap.size w w'

theorem laws_szFractionS (A : Option Addr) (n c : Nat) (w : World) (hn : n ≤ maxLen) :
    Calls Try.prog 28 #[.slice A n c, .int .i64 1048576] w fun e w' => e = .returned (.int .i64 (if n ≤ 1048576 then 1048576 - (n : Int) else -1)) ∧ w = w' := by
  unfold maxLen at hn
  by_cases h : n ≤ 1048576
  · have h1 : ¬ (1048576 : Int) - (n : Int) < 0 := by omega
    rw [if_pos h]
    go_enter Try.func28, Try.ntmps28
    go_wp2
    go_ret
    exact ⟨rfl, rfl⟩
  · have h1 : (1048576 : Int) - (n : Int) < 0 := by omega
    rw [if_neg h]
    go_enter Try.func28, Try.ntmps28
    go_wp2
    go_ret
    exact ⟨rfl, rfl⟩


end Go.Proofs.Ytaifgfmkkgndkab
