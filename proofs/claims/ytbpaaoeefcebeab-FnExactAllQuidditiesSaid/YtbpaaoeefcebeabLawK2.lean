/- The laws' helpers over diagonals from any number on (laws of two slices of diagonals). -/
import Derived.Test.YtbpaaoeefcebeabLawM
namespace Go.Proofs.Ytbpaaoeefcebeab
set_option linter.unusedVariables false
open Go.RowKit

theorem laws_sz_fit (A : Option Addr) (n c : Nat) (m : Int) (w : World) (h : (n : Int) ≤ m) (hm : m ≤ 1048576) :
    Calls Try.prog 15 #[.slice A n c, .int .i64 m] w fun e w' => e = .returned (.int .i64 (m - (n : Int))) ∧ w = w' := by
  have h1 : ¬ m - (n : Int) < 0 := by omega
  go_enter Try.func15, Try.ntmps15
  go_wp2
  go_ret
  exact ⟨rfl, rfl⟩
theorem laws_sz_over (A : Option Addr) (n c : Nat) (m : Int) (w : World) (hn : n ≤ maxLen) (h : ¬(n : Int) ≤ m) (hm : 0 ≤ m) :
    Calls Try.prog 15 #[.slice A n c, .int .i64 m] w fun e w' => e = .returned (.int .i64 (-1)) ∧ w = w' := by
  unfold maxLen at hn
  have h1 : m - (n : Int) < 0 := by omega
  go_enter Try.func15, Try.ntmps15
  go_wp2
  go_ret
  exact ⟨rfl, rfl⟩

/-- the marks of a list of pairs, from k on -/
def marksDk (n : Nat) (k : Int) : List (Int × Int) := (List.range n).map fun (i : Nat) => (k + 2 * (i : Int), k + 2 * (i : Int) + 1)
theorem marksDk_length (n : Nat) (k : Int) : (marksDk n k).length = n := by simp [marksDk]
theorem marksDk_get (n : Nat) (k : Int) (j : Nat) (h : j < n) : (marksDk n k).getD j (0, 0) = (k + 2 * (j : Int), k + 2 * (j : Int) + 1) := by simp [marksDk, h]
theorem marksDk_succ (k : Nat) (m : Int) : marksDk (k + 1) m = marksDk k m ++ [(m + 2 * (k : Int), m + 2 * (k : Int) + 1)] := by simp [marksDk, List.range_succ]
def halfDk (l : List (Int × Int)) (k : Nat) (m : Int) : List (Int × Int) := marksDk k m ++ l.drop k
theorem halfDk_length (l : List (Int × Int)) (k : Nat) (m : Int) (h : k ≤ l.length) : (halfDk l k m).length = l.length := by simp [halfDk, marksDk_length]; omega
theorem halfDk_zero (l : List (Int × Int)) (m : Int) : halfDk l 0 m = l := by simp [halfDk, marksDk]
theorem halfDk_all (l : List (Int × Int)) (m : Int) : halfDk l l.length m = marksDk l.length m := by simp [halfDk]
theorem halfDk_succ (l : List (Int × Int)) (k : Nat) (m : Int) (h : k < l.length) : (halfDk l k m).set k (m + 2 * (k : Int), m + 2 * (k : Int) + 1) = halfDk l (k + 1) m := by
  unfold halfDk
  rw [marksDk_succ, List.set_append_right _ _ (by simp [marksDk_length])]
  simp only [marksDk_length, Nat.sub_self, List.append_assoc]
  congr 1
  rw [List.drop_eq_getElem_cons h, List.set_cons_zero]
  rfl

set_option maxHeartbeats 1600000 in
theorem laws_markDiagonalS_m (g cap base e : Nat) (l : List (Int × Int)) (m : Int) (w : World) (h : w.ownsRow base e 2 (.slice (some ⟨g, 0, none⟩) l.length cap) l.length (dcs l)) (hl : l.length ≤ 1000000000) (hm : 0 ≤ m ∧ m ≤ 4000000000) :
    Calls Try.prog 22 #[.slice (some ⟨g, 0, none⟩) l.length cap, .int .i64 m] w fun r w' => r = .returned (.int .i64 (m + 2 * (l.length : Int))) ∧
      w'.ownsRow base e 2 (.slice (some ⟨g, 0, none⟩) l.length cap) l.length (dcs (marksDk l.length m)) ∧ w.grownBy w' (some g) := by
  obtain ⟨_, _⟩ := hm
  go_enter Try.func22, Try.ntmps22
  go_wp2
  go_loopw [1, 5] (fun q i wr => ∃ k : Nat, k ≤ l.length ∧ i = .int .i64 k ∧ q = .int .i64 (m + 2 * (k : Int)) ∧ wr.ownsRow base e 2 (.slice (some ⟨g, 0, none⟩) l.length cap) l.length (dcs (halfDk l k m)) ∧ w.grownBy wr (some g)) (fun _ i _ => l.length - (intOf i).toNat)
  case atStart => exact ⟨0, Nat.zero_le _, rfl, by simp, by rw [halfDk_zero]; exact h, World.grownBy.refl w _⟩
  case round =>
    obtain ⟨k, hk, rfl, rfl, ho, hg⟩ := hrel
    by_cases hlt : k < l.length
    · have hkl : k < (halfDk l k m).length := by rw [halfDk_length l k m hk]; exact hlt
      have c0 : wr.cell? ⟨g, k * 2, none⟩ = some (.int .i64 ((halfDk l k m).getD k (0, 0)).1) := by rw [ho.cellAt _ (by omega), dcs_get0 _ _ hkl]
      have c1 : wr.cell? ⟨g, k * 2 + 1, none⟩ = some (.int .i64 ((halfDk l k m).getD k (0, 0)).2) := by rw [ho.cellAt _ (by omega), dcs_get1 _ _ hkl]
      have f0 := ho.frozenAt (k * 2)
      have f1 := ho.frozenAt (k * 2 + 1)
      obtain ⟨hs1, hs2⟩ := stored2 ho k hkl (m + 2 * (k : Int)) (m + 2 * (k : Int) + 1)
      rw [halfDk_succ l k m hlt] at hs1
      have hs3 := hg.trans hs2
      clear ho h hs2 hg
      generalize ((halfDk l k m).getD k (0, 0)).1 = z0 at *
      generalize ((halfDk l k m).getD k (0, 0)).2 = z1 at *
      have k1 : (k : Int) ≤ 1000000000 := by omega
      have e3 : m + 2 * ((k + 1 : Nat) : Int) = m + 2 * (k : Int) + 1 + 1 := by omega
      have E3 := Lib.hid e3
      clear e3
      go_wp2
      go_roundw
      case rel => exact ⟨k + 1, by omega, by go_num, by rw [E3.out], hs1, hs3⟩
      case measure => simp [intOf]; omega
    · obtain rfl : k = l.length := by omega
      rw [halfDk_all] at ho
      go_wp2
      go_ret
      exact ⟨rfl, ho, hg⟩

theorem laws_markDiagonalS_m_nil (c : Nat) (m : Int) (w : World) : Calls Try.prog 22 #[.slice none 0 c, .int .i64 m] w fun r w' => r = .returned (.int .i64 m) ∧ w = w' := by
  go_enter Try.func22, Try.ntmps22
  go_wp2
  refine wp_loop_rounds 1 ?_
  rw [rounds_succ]
  go_wp2
  go_ret
  exact ⟨rfl, rfl⟩
theorem laws_markDiagonalS_m_any (v : Value) (base e : Nat) (l : List (Int × Int)) (m : Int) (w : World) (h : w.ownsRow base e 2 v l.length (dcs l)) (hl : l.length ≤ 1000000000) (hm : 0 ≤ m ∧ m ≤ 4000000000) :
    Calls Try.prog 22 #[v, .int .i64 m] w fun r w' => r = .returned (.int .i64 (m + 2 * (l.length : Int))) ∧
      w'.ownsRow base e 2 v l.length (dcs (marksDk l.length m)) ∧ w.grownBy w' v.ownBlock := by
  have h0 := h
  rcases h.2 with ⟨rfl, hn⟩ | ⟨g, cap, cur, rfl, r⟩
  · obtain rfl : l = [] := List.eq_nil_of_length_eq_zero hn
    refine (laws_markDiagonalS_m_nil 0 m w).mono ?_
    rintro r w' ⟨rfl, rfl⟩
    exact ⟨by simp, h0, World.grownBy.refl w _⟩
  · exact (laws_markDiagonalS_m g cap base e l m w h0 hl hm)
theorem laws_markDiagonalS_k (v : Value) (base e : Nat) (l : List (Int × Int)) (m : Int) (w : World) (h : w.ownsRow base e 2 v l.length (dcs l)) (hl : l.length ≤ 1000000000) (hm : 0 ≤ m ∧ m ≤ 4000000000) :
    Calls Try.prog 22 #[v, .int .i64 m] w fun r w' => r = .returned (.int .i64 (m + 2 * (l.length : Int))) ∧ w.grownBy w' v.ownBlock :=
  (laws_markDiagonalS_m_any v base e l m w h hl hm).mono fun _ _ h => ⟨h.1, h.2.2⟩

set_option maxHeartbeats 1600000 in
theorem laws_heldDiagonalS_k (A : Option Addr) (c B n : Nat) (m : Int) (w : World) (h : SlD w B A (marksDk n m)) (hl : n ≤ 1000000000) (hm : 0 ≤ m ∧ m ≤ 4000000000) :
    Calls Try.prog 23 #[.slice A n c, .int .i64 m] w fun e w' => e = .returned (.int .i64 (m + 2 * (n : Int))) ∧ w = w' := by
  obtain ⟨_, _⟩ := hm
  go_enter Try.func23, Try.ntmps23
  go_wp2
  go_loop [1, 5] (fun q i => ∃ k : Nat, k ≤ n ∧ i = .int .i64 k ∧ q = .int .i64 (m + 2 * (k : Int))) (fun _ i => n - (intOf i).toNat)
  case atStart => exact ⟨0, Nat.zero_le _, rfl, by simp⟩
  case round =>
    obtain ⟨k, hk, rfl, rfl⟩ := hrel
    by_cases hlt : k < n
    · obtain ⟨b, off, rfl, hbB, hc⟩ := h (by rw [marksDk_length]; omega)
      obtain ⟨g0, g1⟩ := hc k (by rw [marksDk_length]; omega)
      rw [marksDk_get n m k hlt] at g0 g1
      dsimp only at g0 g1
      have k1 : (k : Int) ≤ 1000000000 := by omega
      have e3 : m + 2 * ((k + 1 : Nat) : Int) = m + 2 * (k : Int) + 1 + 1 := by omega
      have E3 := Lib.hid e3
      clear hc h e3
      go_wp2
      go_round
      case rel => exact ⟨k + 1, by omega, by go_num, by rw [E3.out]⟩
      case measure => simp [intOf]; omega
    · obtain rfl : k = n := by omega
      go_wp2
      go_ret
      exact ⟨rfl, rfl⟩
end Go.Proofs.Ytbpaaoeefcebeab
