/- The laws' own helpers over diagonals: marked and held; and how a function's results in new memory are told. -/
import Derived.Test.YtbpaaoeefcebeabLawD
namespace Go.Proofs.Ytbpaaoeefcebeab
set_option linter.unusedVariables false
open Go.RowKit

/-- the marks of a list of pairs, from 1 on -/
def marksD (n : Nat) : List (Int × Int) := (List.range n).map fun (i : Nat) => (2 * (i : Int) + 1, 2 * (i : Int) + 2)
theorem marksD_length (n : Nat) : (marksD n).length = n := by simp [marksD]
theorem marksD_get (n : Nat) (j : Nat) (h : j < n) : (marksD n).getD j (0, 0) = (2 * (j : Int) + 1, 2 * (j : Int) + 2) := by simp [marksD, h]
theorem marksD_succ (k : Nat) : marksD (k + 1) = marksD k ++ [(2 * (k : Int) + 1, 2 * (k : Int) + 2)] := by simp [marksD, List.range_succ]
def halfD (l : List (Int × Int)) (k : Nat) : List (Int × Int) := marksD k ++ l.drop k
theorem halfD_length (l : List (Int × Int)) (k : Nat) (h : k ≤ l.length) : (halfD l k).length = l.length := by simp [halfD, marksD_length]; omega
theorem halfD_zero (l : List (Int × Int)) : halfD l 0 = l := by simp [halfD, marksD]
theorem halfD_all (l : List (Int × Int)) : halfD l l.length = marksD l.length := by simp [halfD]
theorem halfD_succ (l : List (Int × Int)) (k : Nat) (h : k < l.length) : (halfD l k).set k (2 * (k : Int) + 1, 2 * (k : Int) + 2) = halfD l (k + 1) := by
  unfold halfD
  rw [marksD_succ, List.set_append_right _ _ (by simp [marksD_length])]
  simp only [marksD_length, Nat.sub_self, List.append_assoc]
  congr 1
  rw [List.drop_eq_getElem_cons h, List.set_cons_zero]
  rfl

set_option maxHeartbeats 1600000 in
theorem laws_markDiagonalS (g cap base e : Nat) (l : List (Int × Int)) (w : World) (h : w.ownsRow base e 2 (.slice (some ⟨g, 0, none⟩) l.length cap) l.length (dcs l)) (hl : l.length ≤ 1000000000) :
    Calls Try.prog 22 #[.slice (some ⟨g, 0, none⟩) l.length cap, .int .i64 1] w fun r w' => r = .returned (.int .i64 (2 * (l.length : Int) + 1)) ∧
      w'.ownsRow base e 2 (.slice (some ⟨g, 0, none⟩) l.length cap) l.length (dcs (marksD l.length)) ∧ w.grownBy w' (some g) := by
  go_enter Try.func22, Try.ntmps22
  go_wp2
  go_loopw [1, 5] (fun q i wr => ∃ k : Nat, k ≤ l.length ∧ i = .int .i64 k ∧ q = .int .i64 (2 * (k : Int) + 1) ∧ wr.ownsRow base e 2 (.slice (some ⟨g, 0, none⟩) l.length cap) l.length (dcs (halfD l k)) ∧ w.grownBy wr (some g)) (fun _ i _ => l.length - (intOf i).toNat)
  case atStart => exact ⟨0, Nat.zero_le _, rfl, rfl, by rw [halfD_zero]; exact h, World.grownBy.refl w _⟩
  case round =>
    obtain ⟨k, hk, rfl, rfl, ho, hg⟩ := hrel
    by_cases hlt : k < l.length
    · have hkl : k < (halfD l k).length := by rw [halfD_length l k hk]; exact hlt
      have c0 : wr.cell? ⟨g, k * 2, none⟩ = some (.int .i64 ((halfD l k).getD k (0, 0)).1) := by rw [ho.cellAt _ (by omega), dcs_get0 _ _ hkl]
      have c1 : wr.cell? ⟨g, k * 2 + 1, none⟩ = some (.int .i64 ((halfD l k).getD k (0, 0)).2) := by rw [ho.cellAt _ (by omega), dcs_get1 _ _ hkl]
      have f0 := ho.frozenAt (k * 2)
      have f1 := ho.frozenAt (k * 2 + 1)
      obtain ⟨hs1, hs2⟩ := stored2 ho k hkl (2 * (k : Int) + 1) (2 * (k : Int) + 2)
      rw [halfD_succ l k hlt] at hs1
      have hs3 := hg.trans hs2
      clear ho h hs2 hg
      generalize ((halfD l k).getD k (0, 0)).1 = z0 at *
      generalize ((halfD l k).getD k (0, 0)).2 = z1 at *
      have e2 : 2 * (k : Int) + 1 + 1 = 2 * (k : Int) + 2 := by omega
      have e3 : 2 * ((k + 1 : Nat) : Int) + 1 = 2 * (k : Int) + 2 + 1 := by omega
      have E3 := Lib.hid e3
      clear e3
      go_wp2
      go_roundw
      case rel => exact ⟨k + 1, by omega, by go_num, by rw [E3.out], hs1, hs3⟩
      case measure => simp [intOf]; omega
    · obtain rfl : k = l.length := by omega
      rw [halfD_all] at ho
      go_wp2
      go_ret
      exact ⟨rfl, ho, hg⟩

theorem laws_markDiagonalS_nil (c : Nat) (w : World) : Calls Try.prog 22 #[.slice none 0 c, .int .i64 1] w fun r w' => r = .returned (.int .i64 1) ∧ w = w' := by
  go_enter Try.func22, Try.ntmps22
  go_wp2
  refine wp_loop_rounds 1 ?_
  rw [rounds_succ]
  go_wp2
  go_ret
  exact ⟨rfl, rfl⟩

theorem laws_markDiagonalS_any (v : Value) (base e : Nat) (l : List (Int × Int)) (w : World) (h : w.ownsRow base e 2 v l.length (dcs l)) (hl : l.length ≤ 1000000000) :
    Calls Try.prog 22 #[v, .int .i64 1] w fun r w' => r = .returned (.int .i64 (2 * (l.length : Int) + 1)) ∧
      w'.ownsRow base e 2 v l.length (dcs (marksD l.length)) ∧ w.grownBy w' v.ownBlock := by
  have h0 := h
  rcases h.2 with ⟨rfl, hn⟩ | ⟨g, cap, cur, rfl, r⟩
  · obtain rfl : l = [] := List.eq_nil_of_length_eq_zero hn
    refine (laws_markDiagonalS_nil 0 w).mono ?_
    rintro r w' ⟨rfl, rfl⟩
    exact ⟨rfl, h0, World.grownBy.refl w _⟩
  · exact (laws_markDiagonalS g cap base e l w h0 hl)

set_option maxHeartbeats 1600000 in
theorem laws_heldDiagonalS (A : Option Addr) (c B n : Nat) (w : World) (h : SlD w B A (marksD n)) (hl : n ≤ 1000000000) :
    Calls Try.prog 23 #[.slice A n c, .int .i64 1] w fun e w' => e = .returned (.int .i64 (2 * (n : Int) + 1)) ∧ w = w' := by
  go_enter Try.func23, Try.ntmps23
  go_wp2
  go_loop [1, 5] (fun q i => ∃ k : Nat, k ≤ n ∧ i = .int .i64 k ∧ q = .int .i64 (2 * (k : Int) + 1)) (fun _ i => n - (intOf i).toNat)
  case atStart => exact ⟨0, Nat.zero_le _, rfl, rfl⟩
  case round =>
    obtain ⟨k, hk, rfl, rfl⟩ := hrel
    by_cases hlt : k < n
    · obtain ⟨b, off, rfl, hbB, hc⟩ := h (by rw [marksD_length]; omega)
      obtain ⟨g0, g1⟩ := hc k (by rw [marksD_length]; omega)
      rw [marksD_get n k hlt] at g0 g1
      dsimp only at g0 g1
      have e2 : 2 * (k : Int) + 1 + 1 = 2 * (k : Int) + 2 := by omega
      have e3 : 2 * ((k + 1 : Nat) : Int) + 1 = 2 * (k : Int) + 2 + 1 := by omega
      have E3 := Lib.hid e3
      clear hc h e3
      go_wp2
      go_round
      case rel => exact ⟨k + 1, by omega, by go_num, by rw [E3.out]⟩
      case measure => simp [intOf]; omega
    · obtain rfl : k = n := by omega
      go_wp2
      go_ret
      exact ⟨rfl, rfl⟩

/-- what a function gives back that makes a list of numbers: the list in new memory, and whether it succeeds -/
def RetI (w : World) (L : List Int) (ok : Bool) (e : Ending) (w' : World) : Prop :=
  ∃ A c, e = .returned (.tuple #[.slice A L.length c, .bool ok]) ∧ w'.ownsRow w.heap.size 3 1 (.slice A L.length c) L.length (ics L) ∧ Below w.heap.size w w'
def RetD (w : World) (L : List (Int × Int)) (ok : Bool) (e : Ending) (w' : World) : Prop :=
  ∃ A c, e = .returned (.tuple #[.slice A L.length c, .bool ok]) ∧ w'.ownsRow w.heap.size 65 2 (.slice A L.length c) L.length (dcs L) ∧ Below w.heap.size w w'
/-- the same of a list alone -/
def GivI (w : World) (L : List Int) (e : Ending) (w' : World) : Prop :=
  ∃ A c, e = .returned (.slice A L.length c) ∧ w'.ownsRow w.heap.size 3 1 (.slice A L.length c) L.length (ics L) ∧ Below w.heap.size w w'
def GivD (w : World) (L : List (Int × Int)) (e : Ending) (w' : World) : Prop :=
  ∃ A c, e = .returned (.slice A L.length c) ∧ w'.ownsRow w.heap.size 65 2 (.slice A L.length c) L.length (dcs L) ∧ Below w.heap.size w w'

/-- a row in another block is as it was -/
theorem own_far {w w' : World} {base e size n : Nat} {v : Value} {xs : List Value} {row : Option Nat} (h : w.ownsRow base e size v n xs) (hg : w.grownBy w' row) (hne : ∀ k, v.ownBlock = some k → some k ≠ row) : w'.ownsRow base e size v n xs := by
  refine h.kept hg ?_
  cases hv : v.ownBlock with
  | none => exact .inl rfl
  | some k => exact .inr (by intro e; exact hne k hv e)
theorem below_grown {B : Nat} {w0 w w' : World} {row : Option Nat} (h : Below B w0 w) (hg : w.grownBy w' row) (hB : B ≤ w0.heap.size) (hr : ∀ k, row = some k → B ≤ k) : Below B w0 w' := h.grown hg (Nat.le_trans hB h.size) hr

theorem ne_old {w : World} {base e size n : Nat} {v : Value} {xs : List Value} (h : w.ownsRow base e size v n xs) : ∀ k, v.ownBlock = some k → some k ≠ some w.heap.size := fun k hk e => by
  have := (h.lt k hk).2
  injection e with e
  omega
theorem ne_new {w w' : World} {e size n g : Nat} {v : Value} {xs : List Value} (h : w'.ownsRow w.heap.size e size v n xs) (hg : g < w.heap.size) : ∀ k, v.ownBlock = some k → some k ≠ some g := fun k hk e => by
  have := (h.lt k hk).1
  injection e with e
  omega
theorem ne_two {w w' : World} {b e size n : Nat} {v v2 : Value} {xs : List Value} (h : ∀ k, v2.ownBlock = some k → b ≤ k ∧ k < w.heap.size) (h' : w'.ownsRow w.heap.size e size v n xs) : ∀ k, v2.ownBlock = some k → some k ≠ v.ownBlock := fun k hk e => by
  have := (h k hk).2
  have := (h'.lt k e.symm).1
  omega
theorem above {w w' : World} {B e size n : Nat} {v : Value} {xs : List Value} (h : w'.ownsRow w.heap.size e size v n xs) (hB : B ≤ w.heap.size) : ∀ k, v.ownBlock = some k → B ≤ k := fun k hk => by
  have := (h.lt k hk).1
  omega

theorem above_blk {B g n c : Nat} (h : B ≤ g) : ∀ k, (Value.slice (some ⟨g, 0, none⟩) n c).ownBlock = some k → B ≤ k := fun k hk => by
  simp [Value.ownBlock] at hk
  omega

end Go.Proofs.Ytbpaaoeefcebeab
