/- Contracts of the laws' own helpers over slices of slices of numbers: compared, marked, held; and how such lists lie in memory. -/
import Derived.Test.YtnoddecligmjbaaLawM
import Derived.Deep.QuietTactic
import Derived.BigQuiet
namespace Go.Proofs.Ytnoddecligmjbaa
set_option linter.unusedVariables false
open Go.RowKit

def rowOf (Ls : List (List Int)) (j : Nat) : List Int := Ls.getD j []
def rvOf (rs : List Value) (j : Nat) : Value := rs.getD j (.slice none 0 0)
/-- a slice's value leads to slices that lead to the lists, all below block B -/
def SlSS (w : World) (B : Nat) (A : Option Addr) (Ls : List (List Int)) : Prop :=
  0 < Ls.length → ∃ b off, A = some ⟨b, off, none⟩ ∧ b < B ∧ ∀ j, j < Ls.length → ∃ Aj cj, w.cell? ⟨b, off + j, none⟩ = some (.slice Aj (rowOf Ls j).length cj) ∧ SlI w B Aj (rowOf Ls j)
theorem SlSS.keep {w w' : World} {B : Nat} {A : Option Addr} {Ls : List (List Int)} (h : SlSS w B A Ls) (hk : ∀ b o, b < B → w'.cell? ⟨b, o, none⟩ = w.cell? ⟨b, o, none⟩) : SlSS w' B A Ls := fun h0 => by
  obtain ⟨b, off, e, hb, hc⟩ := h h0
  refine ⟨b, off, e, hb, fun j hj => ?_⟩
  obtain ⟨Aj, cj, h1, h2⟩ := hc j hj
  exact ⟨Aj, cj, (hk _ _ hb).trans h1, h2.keep hk⟩
theorem SlSS.drewN {w : World} {B : Nat} {A : Option Addr} {Ls : List (List Int)} (h : SlSS w B A Ls) (z : Nat) : SlSS (w.drewN z) B A Ls := h
theorem SlSS.below {w w' : World} {B : Nat} {A : Option Addr} {Ls : List (List Int)} (h : SlSS w B A Ls) (hb : Below B w w') : SlSS w' B A Ls := h.keep fun _ _ hp => hb.cell hp
/-- rows of rows of the call's own: the outer one's cells are the slices' values; no two inner ones share a block -/
def OwnSS (w : World) (base : Nat) (A : Option Addr) (c : Nat) (rs : List Value) (Ls : List (List Int)) : Prop :=
  rs.length = Ls.length ∧ w.ownsRow base 22 1 (.slice A Ls.length c) Ls.length rs ∧ (∀ j, j < Ls.length → w.ownsRow base 3 1 (rvOf rs j) (rowOf Ls j).length (ics (rowOf Ls j))) ∧
    (∀ i j, i < Ls.length → j < Ls.length → i ≠ j → ∀ k, (rvOf rs i).ownBlock = some k → some k ≠ (rvOf rs j).ownBlock)
section
variable {w w' : World} {base : Nat} {A : Option Addr} {c : Nat} {rs : List Value} {Ls : List (List Int)}
theorem OwnSS.nil_ : OwnSS w base none 0 [] [] := ⟨rfl, World.ownsRow_nil _ _ _ _, fun j hj => by simp at hj, fun i j hi => by simp at hi⟩
theorem OwnSS.mono {base' : Nat} (h : OwnSS w base A c rs Ls) (hb : base' ≤ base) : OwnSS w base' A c rs Ls := ⟨h.1, h.2.1.mono hb, fun j hj => (h.2.2.1 j hj).mono hb, h.2.2.2⟩
theorem OwnSS.kept (h : OwnSS w base A c rs Ls) (hb : Below w.heap.size w w') : OwnSS w' base A c rs Ls := ⟨h.1, own_kept h.2.1 hb, fun j hj => own_kept (h.2.2.1 j hj) hb, h.2.2.2⟩
theorem OwnSS.far {row : Option Nat} (h : OwnSS w base A c rs Ls) (hg : w.grownBy w' row) (hr : ∀ k, row = some k → k < base) : OwnSS w' base A c rs Ls := by
  have hne : ∀ {e n : Nat} {v : Value} {xs : List Value}, w.ownsRow base e 1 v n xs → ∀ k, v.ownBlock = some k → some k ≠ row := fun ho k hk e => by
    have h1 := (ho.lt k hk).1
    have h2 := hr k e.symm
    omega
  exact ⟨h.1, own_far h.2.1 hg (hne h.2.1), fun j hj => own_far (h.2.2.1 j hj) hg (hne (h.2.2.1 j hj)), h.2.2.2⟩
theorem rv_get {rs : List Value} {j : Nat} (h : j < rs.length) : rs[j]? = some (rvOf rs j) := by
  unfold rvOf
  simp [h]
theorem OwnSS.outer (h : OwnSS w base A c rs Ls) (h0 : 0 < Ls.length) : ∃ g, A = some ⟨g, 0, none⟩ ∧ base ≤ g ∧ g < w.heap.size ∧ ∀ j, j < Ls.length → w.cell? ⟨g, j, none⟩ = some (rvOf rs j) := by
  obtain ⟨g, cap, hv, hb, hlt⟩ := h.2.1.form h0
  have hA : A = some ⟨g, 0, none⟩ := by injection hv
  subst hA
  refine ⟨g, rfl, hb, hlt, fun j hj => ?_⟩
  have := h.2.1.cellAt j (by omega)
  rw [this, rv_get (by rw [h.1]; exact hj)]
theorem OwnSS.sl (h : OwnSS w base A c rs Ls) : SlSS w w.heap.size A Ls := fun h0 => by
  obtain ⟨g, rfl, hb, hlt, hc⟩ := h.outer h0
  refine ⟨g, 0, rfl, hlt, fun j hj => ?_⟩
  have ho := h.2.2.1 j hj
  obtain ⟨Aj, cj, hv⟩ := own_form ho
  have hcj := hc j hj
  rw [hv] at hcj ho
  exact ⟨Aj, cj, by rw [Nat.zero_add]; exact hcj, SlI.of_own ho⟩
end

set_option maxHeartbeats 800000 in
theorem laws_eqIntS_q (A A' : Option Addr) (c c' B B' : Nat) (l : List Int) (w : World) (h : SlI w B A l) (h' : SlI w B' A' l) (hl : l.length ≤ 1000000000) :
    Calls Try.prog 25 #[.slice A l.length c, .slice A' l.length c'] w fun e w' => e = .returned (.bool true) ∧ ∃ z, w' = w.drewN z := by
  go_enter Try.func25, Try.ntmps25
  go_wp2
  go_loopw [5] (fun i wr => ∃ k z : Nat, k ≤ l.length ∧ i = .int .i64 k ∧ wr = w.drewN z) (fun i _ => l.length - (intOf i).toNat)
  case atStart => exact ⟨0, 0, Nat.zero_le _, rfl, rfl⟩
  case round =>
    obtain ⟨k, z, hk, rfl, rfl⟩ := hrel
    by_cases hlt : k < l.length
    · obtain ⟨b, off, rfl, hbB, hc⟩ := h (by omega)
      obtain ⟨b', off', rfl, hbB', hc'⟩ := h' (by omega)
      have g := hc k hlt
      have g' := hc' k hlt
      have i0 : (0 : Int) ≤ (k : Int) := by omega
      have i1 : (k : Int) < (l.length : Int) := by omega
      clear hc hc' h h'
      go_wp2
      go_quiet (fail)
      go_wp2
      go_roundw
      case rel => exact ⟨k + 1, _, by omega, by go_num, rfl⟩
      case measure => simp [intOf]; omega
    · go_wp2
      go_ret
      exact ⟨rfl, z, rfl⟩

/-- how many numbers the first j lists have -/
def pre (Ls : List (List Int)) (j : Nat) : Nat := ((Ls.take j).map List.length).sum
theorem pre_zero (Ls : List (List Int)) : pre Ls 0 = 0 := by simp [pre]
theorem pre_succ (Ls : List (List Int)) (j : Nat) (h : j < Ls.length) : pre Ls (j + 1) = pre Ls j + (rowOf Ls j).length := by
  unfold pre rowOf
  rw [List.take_succ_eq_append_getElem h]
  simp only [List.map_append, List.sum_append, List.map_cons, List.map_nil, List.sum_cons, List.sum_nil]
  simp [h]
theorem pre_le (Ls : List (List Int)) (j d : Nat) (h : j + d ≤ Ls.length) : pre Ls j ≤ pre Ls (j + d) := by
  induction d with
  | zero => exact Nat.le_refl _
  | succ d ih =>
    have := ih (by omega)
    rw [show j + (d + 1) = (j + d) + 1 by omega, pre_succ Ls (j + d) (by omega)]
    omega
/-- the first j lists marked, one after the other, from 1 on -/
def mkd (Ls : List (List Int)) (j : Nat) : List (List Int) := (List.range Ls.length).map fun i => if i < j then marksI (rowOf Ls i).length (1 + (pre Ls i : Int)) else rowOf Ls i
theorem mkd_length (Ls : List (List Int)) (j : Nat) : (mkd Ls j).length = Ls.length := by simp [mkd]
theorem mkd_row (Ls : List (List Int)) (j i : Nat) (h : i < Ls.length) : rowOf (mkd Ls j) i = if i < j then marksI (rowOf Ls i).length (1 + (pre Ls i : Int)) else rowOf Ls i := by
  conv => lhs; unfold rowOf mkd
  simp [h]
theorem mkd_row_length (Ls : List (List Int)) (j i : Nat) (h : i < Ls.length) : (rowOf (mkd Ls j) i).length = (rowOf Ls i).length := by
  rw [mkd_row Ls j i h]
  split
  · rw [marksI_length]
  · rfl
theorem mkd_zero (Ls : List (List Int)) : mkd Ls 0 = Ls := by
  apply List.ext_getElem
  · exact mkd_length Ls 0
  · intro i h1 h2
    have := mkd_row Ls 0 i h2
    unfold rowOf at this
    simpa [h1, h2, mkd_length] using this

def halfK (l : List Int) (k : Nat) (m : Int) : List Int := marksI k m ++ l.drop k
theorem halfK_length (l : List Int) (k : Nat) (m : Int) (h : k ≤ l.length) : (halfK l k m).length = l.length := by simp [halfK, marksI_length]; omega
theorem halfK_zero (l : List Int) (m : Int) : halfK l 0 m = l := by simp [halfK, marksI]
theorem halfK_all (l : List Int) (m : Int) : halfK l l.length m = marksI l.length m := by simp [halfK]
theorem halfK_succ (l : List Int) (k : Nat) (m : Int) (h : k < l.length) : (halfK l k m).set k (m + (k : Int)) = halfK l (k + 1) m := by
  unfold halfK
  rw [marksI_succ, List.set_append_right _ _ (by simp [marksI_length])]
  simp only [marksI_length, Nat.sub_self, List.append_assoc]
  congr 1
  rw [List.drop_eq_getElem_cons h, List.set_cons_zero]
  rfl

set_option maxHeartbeats 800000 in
theorem laws_markIntS_m (g cap base e : Nat) (l : List Int) (m : Int) (w : World) (h : w.ownsRow base e 1 (.slice (some ⟨g, 0, none⟩) l.length cap) l.length (ics l)) (hl : l.length ≤ 1000000000) (hm : 0 ≤ m ∧ m ≤ 4000000000) :
    Calls Try.prog 108 #[.slice (some ⟨g, 0, none⟩) l.length cap, .int .i64 m] w fun r w' => r = .returned (.int .i64 (m + (l.length : Int))) ∧
      w'.ownsRow base e 1 (.slice (some ⟨g, 0, none⟩) l.length cap) l.length (ics (marksI l.length m)) ∧ w.grownBy w' (some g) := by
  obtain ⟨_, _⟩ := hm
  go_enter Try.func108, Try.ntmps108
  go_wp2
  go_loopw [1, 5] (fun q i wr => ∃ k : Nat, k ≤ l.length ∧ i = .int .i64 k ∧ q = .int .i64 (m + (k : Int)) ∧ wr.ownsRow base e 1 (.slice (some ⟨g, 0, none⟩) l.length cap) l.length (ics (halfK l k m)) ∧ w.grownBy wr (some g)) (fun _ i _ => l.length - (intOf i).toNat)
  case atStart => exact ⟨0, Nat.zero_le _, rfl, by simp, by rw [halfK_zero]; exact h, World.grownBy.refl w _⟩
  case round =>
    obtain ⟨k, hk, rfl, rfl, ho, hg⟩ := hrel
    by_cases hlt : k < l.length
    · have hcell : wr.cell? ⟨g, k, none⟩ = some (.int .i64 ((halfK l k m).getD k 0)) := by
        rw [ho.cellAt k (by omega), ics_get _ _ (by rw [halfK_length l k m hk]; exact hlt)]
      have hfro := ho.frozenAt k
      have hst := ho.stored k (.int .i64 (m + (k : Int)))
      rw [ics_set, halfK_succ l k m hlt] at hst
      obtain ⟨hs1, hs2⟩ := hst
      have hs3 := hg.trans hs2
      have k1 : (k : Int) ≤ 1000000000 := by omega
      clear ho h hs2 hg
      go_wp2
      go_roundw
      case rel => exact ⟨k + 1, by omega, by go_num, by simp; omega, hs1, hs3⟩
      case measure => simp [intOf]; omega
    · obtain rfl : k = l.length := by omega
      rw [halfK_all] at ho
      go_wp2
      go_ret
      exact ⟨rfl, ho, hg⟩
theorem laws_markIntS_m_nil (c : Nat) (m : Int) (w : World) : Calls Try.prog 108 #[.slice none 0 c, .int .i64 m] w fun r w' => r = .returned (.int .i64 m) ∧ w = w' := by
  go_enter Try.func108, Try.ntmps108
  go_wp2
  refine wp_loop_rounds 1 ?_
  rw [rounds_succ]
  go_wp2
  go_ret
  exact ⟨rfl, rfl⟩
theorem laws_markIntS_m_any (v : Value) (base e : Nat) (l : List Int) (m : Int) (w : World) (h : w.ownsRow base e 1 v l.length (ics l)) (hl : l.length ≤ 1000000000) (hm : 0 ≤ m ∧ m ≤ 4000000000) :
    Calls Try.prog 108 #[v, .int .i64 m] w fun r w' => r = .returned (.int .i64 (m + (l.length : Int))) ∧
      w'.ownsRow base e 1 v l.length (ics (marksI l.length m)) ∧ w.grownBy w' v.ownBlock := by
  have h0 := h
  rcases h.2 with ⟨rfl, hn⟩ | ⟨g, cap, cur, rfl, r⟩
  · obtain rfl : l = [] := List.eq_nil_of_length_eq_zero hn
    refine (laws_markIntS_m_nil 0 m w).mono ?_
    rintro r w' ⟨rfl, rfl⟩
    exact ⟨by simp, h0, World.grownBy.refl w _⟩
  · exact (laws_markIntS_m g cap base e l m w h0 hl hm)

set_option maxHeartbeats 800000 in
theorem laws_heldIntS_k (A : Option Addr) (c B n : Nat) (m : Int) (w : World) (h : SlI w B A (marksI n m)) (hl : n ≤ 1000000000) (hm : 0 ≤ m ∧ m ≤ 4000000000) :
    Calls Try.prog 109 #[.slice A n c, .int .i64 m] w fun e w' => e = .returned (.int .i64 (m + (n : Int))) ∧ w = w' := by
  obtain ⟨_, _⟩ := hm
  go_enter Try.func109, Try.ntmps109
  go_wp2
  go_loop [1, 5] (fun q i => ∃ k : Nat, k ≤ n ∧ i = .int .i64 k ∧ q = .int .i64 (m + (k : Int))) (fun _ i => n - (intOf i).toNat)
  case atStart => exact ⟨0, Nat.zero_le _, rfl, by simp⟩
  case round =>
    obtain ⟨k, hk, rfl, rfl⟩ := hrel
    by_cases hlt : k < n
    · obtain ⟨b, off, rfl, hbB, hc⟩ := h (by rw [marksI_length]; omega)
      have g := hc k (by rw [marksI_length]; omega)
      rw [marksI_get n m k hlt] at g
      have k1 : (k : Int) ≤ 1000000000 := by omega
      clear hc h
      go_wp2
      go_round
      case rel => exact ⟨k + 1, by omega, by go_num, by simp; omega⟩
      case measure => simp [intOf]; omega
    · obtain rfl : k = n := by omega
      go_wp2
      go_ret
      exact ⟨rfl, rfl⟩

/-- what a function gives back that makes a list of lists: in new memory, and whether it succeeds -/
def RetSS (w : World) (Ls : List (List Int)) (ok : Bool) (e : Ending) (w' : World) : Prop :=
  ∃ A c rs, e = .returned (.tuple #[.slice A Ls.length c, .bool ok]) ∧ OwnSS w' w.heap.size A c rs Ls ∧ Below w.heap.size w w'
end Go.Proofs.Ytnoddecligmjbaa
