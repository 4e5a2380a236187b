/- Entries of a frieze: the model's frEntry, the program's entriesOf; EntryOf's walk. -/
import Derived.Test.YtbebalgleiafdabDoorFrM
import Derived.Test.YtbebalgleiafdabDoorIsQuiddityW
import Derived.IntWalk
namespace Go.Proofs.YtbebalgleiafdabDoor
set_option linter.unusedVariables false
open Go.RowKit

/-- where an index lies, around -/
theorem md_at (k : Int) (n : Nat) (hn : 1 ≤ n) : ∃ r : Nat, r < n ∧ (k.tmod (n : Int) + (n : Int)) % (n : Int) = (r : Int) ∧ (mdI k n).toNat = r := by
  have h := mdI_bd k n (by omega)
  obtain ⟨r, hr⟩ := Int.eq_ofNat_of_zero_le h.1
  refine ⟨r, by omega, hr, ?_⟩
  rw [hr]
  rfl

set_option maxRecDepth 100000 in
set_option maxHeartbeats 1600000 in
theorem spec_frEntry (A : Option Addr) (c B : Nat) (q : List Int) (i j : Int) (w : World) (h : SlI w B A q) (h3 : 3 ≤ q.length) (h12 : q.length ≤ 12) (hi : -2000 ≤ i ∧ i ≤ 2000) (hij : i ≤ j) (hj : j ≤ i + 20) :
    Calls Tryd.prog 63 #[.slice A q.length c, .int .i64 i, .int .i64 j] w fun e w' => e = .returned (.int .i64 (ent q i j)) ∧ w = w' := by
  obtain ⟨hi0, hi1⟩ := hi
  have hfin : ∀ s : Nat, i + (s : Int) = j → ent q i j = (entS q i s).2 := fun s e => by
    unfold ent
    rw [show (j - i).toNat = s by omega]
  have Hfin := Lib.hid hfin
  clear hfin
  go_enter Tryd.func63, Tryd.ntmps63
  go_wp2
  go_loop [8, 9, 10, 11] (fun b e k _ => ∃ s : Nat, i + (s : Int) ≤ j ∧ k = .int .i64 (i + (s : Int)) ∧ b = .int .i64 (entS q i s).1 ∧ e = .int .i64 (entS q i s).2) (fun _ _ k _ => (j - intOf k).toNat)
  case atStart => exact ⟨0, by omega, by simp, rfl, rfl⟩
  case round =>
    obtain ⟨s, hs, rfl, rfl, rfl⟩ := hrel
    by_cases hlt : i + (s : Int) < j
    · obtain ⟨b', off, rfl, hbB, hc⟩ := h (by omega)
      obtain ⟨r, hr, hre, hrm⟩ := md_at (i + (s : Int)) q.length (by omega)
      have hst : entS q i (s + 1) = ((entS q i s).2, wrap64 (wrap64 (q.getD (mdI (i + s) q.length).toNat 0 * (entS q i s).2) - (entS q i s).1)) := rfl
      rw [hrm] at hst
      have g0 := hc r hr
      have tb := tmod_bd (i + (s : Int)) (q.length : Int) (by omega)
      obtain ⟨tb0, tb1⟩ := tb
      have r0 : (0 : Int) ≤ (r : Int) := by omega
      have r1 : (r : Int) < (q.length : Int) := by omega
      have hk0 : -3000 ≤ i + (s : Int) := by omega
      have hk1 : i + (s : Int) ≤ 3000 := by omega
      have n1 : (1 : Int) ≤ (q.length : Int) := by omega
      have n2 : (q.length : Int) ≤ 12 := by omega
      have hs1 : i + ((s + 1 : Nat) : Int) = i + (s : Int) + 1 := by omega
      have Hs1 := Lib.hid hs1
      generalize (entS q i s).1 = y at *
      generalize (entS q i s).2 = z at *
      generalize q.getD r 0 = x at *
      have Hst := Lib.hid hst
      clear hc hst hrm h hs1
      go_wp2
      go_round
      case rel => exact ⟨s + 1, by omega, by rw [Hs1.out], by rw [Hst.out], by rw [Hst.out]⟩
      case measure => simp [intOf]; omega
    · have he := Hfin.out s (by omega)
      have He := Lib.hid he
      clear he h
      go_wp2
      go_ret
      exact ⟨ret_int He.out.symm, rfl⟩

theorem impl_modulo (k n : Int) (w : World) (hk : -5000 ≤ k ∧ k ≤ 5000) (hn : 1 ≤ n ∧ n ≤ 12) :
    Calls Tryd.prog 112 #[.int .i64 k, .int .i64 n] w fun e w' => e = .returned (.int .i64 (mdI k n)) ∧ w' = w := by
  have e : mdI k n = (k.tmod n + n) % n := rfl
  have tb := tmod_bd k n hn.1
  obtain ⟨tb0, tb1⟩ := tb
  obtain ⟨_, _⟩ := hk
  obtain ⟨_, _⟩ := hn
  have He := Lib.hid e
  clear e
  go_enter Tryd.func112, Tryd.ntmps112
  go_wp2
  go_ret
  exact ⟨ret_int He.out.symm, rfl⟩

/-- the two cells that the closure of entriesOf holds -/
def Caps (w : World) (gq gn : Nat) (A : Option Addr) (c : Nat) (q : List Int) : Prop :=
  w.cell? ⟨gq, 0, none⟩ = some (.slice A q.length c) ∧ w.cell? ⟨gn, 0, none⟩ = some (.int .i64 q.length)

set_option maxRecDepth 100000 in
set_option maxHeartbeats 1600000 in
theorem impl_entries1 (gq gn : Nat) (A : Option Addr) (c B : Nat) (q : List Int) (i j : Int) (w : World) (hcp : Caps w gq gn A c q) (h : SlI w B A q) (hB : B ≤ w.heap.size) (h3 : 3 ≤ q.length) (h12 : q.length ≤ 12) (hi : -2000 ≤ i ∧ i ≤ 2000) (hij : i ≤ j) (hj : j ≤ i + 20) :
    Calls Tryd.prog 111 #[.int .i64 i, .int .i64 j, .pointer (some ⟨gq, 0, none⟩), .pointer (some ⟨gn, 0, none⟩)] w fun e w' => e = .returned (.int .i64 (ent q i j)) ∧ Below w.heap.size w w' := by
  obtain ⟨hi0, hi1⟩ := hi
  have hfin : ∀ s : Nat, i + (s : Int) = j → ent q i j = (entS q i s).2 := fun s e => by
    unfold ent
    rw [show (j - i).toNat = s by omega]
  have Hfin := Lib.hid hfin
  clear hfin
  obtain ⟨b', off, rfl, hbB, hc⟩ := h (by omega)
  obtain ⟨c0, c1⟩ := hcp
  have Hc := Lib.hid hc
  clear hc h
  go_enter Tryd.func111, Tryd.ntmps111
  go_wp2
  go_loopw [7, 8, 9] (fun b e k wr => ∃ s : Nat, i + (s : Int) ≤ j ∧ k = .int .i64 (i + (s : Int)) ∧ b = .int .i64 (entS q i s).1 ∧ e = .int .i64 (entS q i s).2 ∧ Below w.heap.size w wr) (fun _ _ k _ => (j - intOf k).toNat)
  case atStart => exact ⟨0, by omega, by simp, rfl, rfl, Below.refl _ _⟩
  case round =>
    obtain ⟨s, hs, rfl, rfl, rfl, hb⟩ := hrel
    by_cases hlt : i + (s : Int) < j
    · obtain ⟨r, hr, hre, hrm⟩ := md_at (i + (s : Int)) q.length (by omega)
      have hst : entS q i (s + 1) = ((entS q i s).2, wrap64 (wrap64 (q.getD (mdI (i + s) q.length).toNat 0 * (entS q i s).2) - (entS q i s).1)) := rfl
      rw [hrm] at hst
      have hmd : mdI (i + (s : Int)) q.length = (r : Int) := hre
      have g0 : wr.cell? ⟨b', off + r, none⟩ = some (.int .i64 (q.getD r 0)) := (hb.cell (p := ⟨b', off + r, none⟩) (by show b' < w.heap.size; omega)).trans (Hc.out r hr)
      have d0 := cell_kept hb c0
      have d1 := cell_kept hb c1
      have r0 : (0 : Int) ≤ (r : Int) := by omega
      have r1 : (r : Int) < (q.length : Int) := by omega
      have hk0 : -3000 ≤ i + (s : Int) := by omega
      have hk1 : i + (s : Int) ≤ 3000 := by omega
      have n1 : (1 : Int) ≤ (q.length : Int) := by omega
      have n2 : (q.length : Int) ≤ 12 := by omega
      have hs1 : i + ((s + 1 : Nat) : Int) = i + (s : Int) + 1 := by omega
      have Hs1 := Lib.hid hs1
      have cmod : ∀ w : World, Calls Tryd.prog 112 #[.int .i64 (i + (s : Int)), .int .i64 q.length] w fun e w' => e = .returned (.int .i64 (r : Int)) ∧ w' = w := fun w => by
        have := impl_modulo (i + (s : Int)) q.length w ⟨by omega, by omega⟩ ⟨n1, n2⟩
        rwa [hmd] at this
      have Cmod := Lib.hid cmod
      generalize (entS q i s).1 = y at *
      generalize (entS q i s).2 = z at *
      generalize q.getD r 0 = x at *
      have Hst := Lib.hid hst
      clear hst hrm hs1 hre hmd cmod
      go_wp2
      go_quiet ((go_at_call 112; exact Calls.quiet_of_same (Cmod.out _)))
      go_wp2
      go_roundw
      case rel => exact ⟨s + 1, by omega, by rw [Hs1.out], by rw [Hst.out], by rw [Hst.out], below_drewN hb _⟩
      case measure => simp [intOf]; omega
    · have he := Hfin.out s (by omega)
      have He := Lib.hid he
      clear he
      go_wp2
      go_ret
      exact ⟨ret_int He.out.symm, hb⟩

/-- there is an entry of i and j -/
def okE (q : List Int) (i j : Int) : Bool := isQ q && inB i (-1000) 1000 && inB j i (i + q.length)
theorem inB_iff' {n lo hi : Int} : inB n lo hi = true ↔ lo ≤ n ∧ n ≤ hi := by unfold inB; simp
theorem okE_iff {q : List Int} {i j : Int} : okE q i j = true ↔ isQ q = true ∧ (-1000 ≤ i ∧ i ≤ 1000) ∧ (i ≤ j ∧ j ≤ i + q.length) := by
  unfold okE
  rw [Bool.and_eq_true, Bool.and_eq_true, inB_iff', inB_iff', and_assoc]
def entR (q : List Int) (i j : Int) : Int := if okE q i j = true then ent q i j else 0
def EntEnd (q : List Int) (i j : Int) (w : World) (e : Ending) (w' : World) : Prop := e = .returned (.tuple #[.int .i64 (entR q i j), .bool (okE q i j)]) ∧ Below w.heap.size w w'
theorem entEnd_no {q : List Int} {i j : Int} {w w' : World} (h : okE q i j = false) (hb : Below w.heap.size w w') : EntEnd q i j w (.returned (.tuple #[.int .i64 0, .bool false])) w' := by
  unfold EntEnd entR
  rw [h]
  exact ⟨rfl, hb⟩
theorem entEnd_yes {q : List Int} {i j : Int} {w w' : World} (h : okE q i j = true) (hb : Below w.heap.size w w') : EntEnd q i j w (.returned (.tuple #[.int .i64 (ent q i j), .bool true])) w' := by
  unfold EntEnd entR
  rw [h]
  exact ⟨rfl, hb⟩

def EntC (w : World) (A : Option Addr) (c : Nat) (q : List Int) (e : Ending) (w' : World) : Prop :=
  e = .returned (.func (.func 111) #[] #[.pointer (some ⟨w.heap.size, 0, none⟩), .pointer (some ⟨w.heap.size + 1, 0, none⟩)]) ∧ Caps w' w.heap.size (w.heap.size + 1) A c q ∧ Below w.heap.size w w'
theorem impl_entriesOf (A : Option Addr) (c : Nat) (q : List Int) (w : World) :
    Calls Tryd.prog 87 #[.slice A q.length c] w (EntC w A c q) := by
  have hmf : ∀ (fn : Fn) (first cap : Array Value) (w : World), (Instr.makeFunc fn first cap).run Tryd.prog w = .ok (.func fn first cap) w := fun _ _ _ _ => rfl
  have hres : EntC w A c q (.returned (.func (.func 111) #[] #[.pointer (some ⟨w.heap.size, 0, none⟩), .pointer (some ⟨w.heap.size + 1, 0, none⟩)])) ((w.alloc (.cells #[.slice A q.length c] 49)).alloc (.cells #[.int .i64 q.length] 3)) :=
    ⟨rfl, ⟨by simp [go_sem], by simp [go_sem]⟩, ((Below.refl _ _).alloc (Nat.le_refl _) _).alloc (by simp) _⟩
  have Hres := Lib.hid hres
  clear hres
  go_enter Tryd.func87, Tryd.ntmps87
  go_wp2
  go_ret
  exact Hres.out

end Go.Proofs.YtbebalgleiafdabDoor
