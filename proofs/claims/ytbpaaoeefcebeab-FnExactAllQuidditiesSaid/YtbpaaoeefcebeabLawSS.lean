/- Contracts of the laws' own helpers over slices of slices of numbers: compared, marked, held; and how such lists lie in memory. -/
import Derived.Test.YtbpaaoeefcebeabLawM
import Derived.Deep.QuietTactic
import Derived.BigQuiet
namespace Go.Proofs.Ytbpaaoeefcebeab
set_option linter.unusedVariables false
open Go.RowKit

def rowOf (Ls : List (List Int)) (j : Nat) : List Int := Ls.getD j []
def rvOf (rs : List Value) (j : Nat) : Value := rs.getD j (.slice none 0 0)
/-- a slice's value leads to slices that lead to the lists, all below block B -/
def SlSS (w : World) (B : Nat) (A : Option Addr) (Ls : List (List Int)) : Prop :=
  0 < Ls.length → ∃ b off, A = some ⟨b, off, none⟩ ∧ b < B ∧ ∀ j, j < Ls.length → ∃ Aj cj, w.cell? ⟨b, off + j, none⟩ = some (.slice Aj (rowOf Ls j).length cj) ∧ SlI w B Aj (rowOf Ls j)
theorem SlSS.keep {w w' : World} {B : Nat} {A : Option Addr} {Ls : List (List Int)} (h : SlSS w B A Ls) (hk : ∀ b o, b < B → w'.cell? ⟨b, o, none⟩ = w.cell? ⟨b, o, none⟩) : SlSS w' B A Ls := fun h0 => by
  obtain ⟨b, off, e, hb, hc⟩ := h h0
  refine ⟨b, off, e, hb, fun j hj => ?_⟩
  obtain ⟨Aj, cj, h1, h2⟩ := hc j hj
  exact ⟨Aj, cj, (hk _ _ hb).trans h1, h2.keep hk⟩
theorem SlSS.drewN {w : World} {B : Nat} {A : Option Addr} {Ls : List (List Int)} (h : SlSS w B A Ls) (z : Nat) : SlSS (w.drewN z) B A Ls := h
theorem SlSS.below {w w' : World} {B : Nat} {A : Option Addr} {Ls : List (List Int)} (h : SlSS w B A Ls) (hb : Below B w w') : SlSS w' B A Ls := h.keep fun _ _ hp => hb.cell hp
/-- rows of rows of the call's own: the outer one's cells are the slices' values; no two inner ones share a block -/
def OwnSS (w : World) (base : Nat) (A : Option Addr) (c : Nat) (rs : List Value) (Ls : List (List Int)) : Prop :=
  rs.length = Ls.length ∧ w.ownsRow base 50 1 (.slice A Ls.length c) Ls.length rs ∧ (∀ j, j < Ls.length → w.ownsRow base 3 1 (rvOf rs j) (rowOf Ls j).length (ics (rowOf Ls j))) ∧
    (∀ i j, i < Ls.length → j < Ls.length → i ≠ j → ∀ k, (rvOf rs i).ownBlock = some k → some k ≠ (rvOf rs j).ownBlock)
section
variable {w w' : World} {base : Nat} {A : Option Addr} {c : Nat} {rs : List Value} {Ls : List (List Int)}
theorem OwnSS.nil_ : OwnSS w base none 0 [] [] := ⟨rfl, World.ownsRow_nil _ _ _ _, fun j hj => by simp at hj, fun i j hi => by simp at hi⟩
theorem OwnSS.mono {base' : Nat} (h : OwnSS w base A c rs Ls) (hb : base' ≤ base) : OwnSS w base' A c rs Ls := ⟨h.1, h.2.1.mono hb, fun j hj => (h.2.2.1 j hj).mono hb, h.2.2.2⟩
theorem OwnSS.kept (h : OwnSS w base A c rs Ls) (hb : Below w.heap.size w w') : OwnSS w' base A c rs Ls := ⟨h.1, own_kept h.2.1 hb, fun j hj => own_kept (h.2.2.1 j hj) hb, h.2.2.2⟩
theorem OwnSS.far {row : Option Nat} (h : OwnSS w base A c rs Ls) (hg : w.grownBy w' row) (hr : ∀ k, row = some k → k < base) : OwnSS w' base A c rs Ls := by
  have hne : ∀ {e n : Nat} {v : Value} {xs : List Value}, w.ownsRow base e 1 v n xs → ∀ k, v.ownBlock = some k → some k ≠ row := fun ho k hk e => by
    have h1 := (ho.lt k hk).1
    have h2 := hr k e.symm
    omega
  exact ⟨h.1, own_far h.2.1 hg (hne h.2.1), fun j hj => own_far (h.2.2.1 j hj) hg (hne (h.2.2.1 j hj)), h.2.2.2⟩
theorem rv_get {rs : List Value} {j : Nat} (h : j < rs.length) : rs[j]? = some (rvOf rs j) := by
  unfold rvOf
  simp [h]
theorem OwnSS.outer (h : OwnSS w base A c rs Ls) (h0 : 0 < Ls.length) : ∃ g, A = some ⟨g, 0, none⟩ ∧ base ≤ g ∧ g < w.heap.size ∧ ∀ j, j < Ls.length → w.cell? ⟨g, j, none⟩ = some (rvOf rs j) := by
  obtain ⟨g, cap, hv, hb, hlt⟩ := h.2.1.form h0
  have hA : A = some ⟨g, 0, none⟩ := by injection hv
  subst hA
  refine ⟨g, rfl, hb, hlt, fun j hj => ?_⟩
  have := h.2.1.cellAt j (by omega)
  rw [this, rv_get (by rw [h.1]; exact hj)]
theorem OwnSS.sl (h : OwnSS w base A c rs Ls) : SlSS w w.heap.size A Ls := fun h0 => by
  obtain ⟨g, rfl, hb, hlt, hc⟩ := h.outer h0
  refine ⟨g, 0, rfl, hlt, fun j hj => ?_⟩
  have ho := h.2.2.1 j hj
  obtain ⟨Aj, cj, hv⟩ := own_form ho
  have hcj := hc j hj
  rw [hv] at hcj ho
  exact ⟨Aj, cj, by rw [Nat.zero_add]; exact hcj, SlI.of_own ho⟩
end

set_option maxHeartbeats 800000 in
theorem laws_eqIntS_q (A A' : Option Addr) (c c' B B' : Nat) (l : List Int) (w : World) (h : SlI w B A l) (h' : SlI w B' A' l) (hl : l.length ≤ 1000000000) :
    Calls Try.prog 85 #[.slice A l.length c, .slice A' l.length c'] w fun e w' => e = .returned (.bool true) ∧ ∃ z, w' = w.drewN z := by
  go_enter Try.func85, Try.ntmps85
  go_wp2
  go_loopw [5] (fun i wr => ∃ k z : Nat, k ≤ l.length ∧ i = .int .i64 k ∧ wr = w.drewN z) (fun i _ => l.length - (intOf i).toNat)
  case atStart => exact ⟨0, 0, Nat.zero_le _, rfl, rfl⟩
  case round =>
    obtain ⟨k, z, hk, rfl, rfl⟩ := hrel
    by_cases hlt : k < l.length
    · obtain ⟨b, off, rfl, hbB, hc⟩ := h (by omega)
      obtain ⟨b', off', rfl, hbB', hc'⟩ := h' (by omega)
      have g := hc k hlt
      have g' := hc' k hlt
      have i0 : (0 : Int) ≤ (k : Int) := by omega
      have i1 : (k : Int) < (l.length : Int) := by omega
      clear hc hc' h h'
      go_wp2
      go_quiet (fail)
      go_wp2
      go_roundw
      case rel => exact ⟨k + 1, _, by omega, by go_num, rfl⟩
      case measure => simp [intOf]; omega
    · go_wp2
      go_ret
      exact ⟨rfl, z, rfl⟩

set_option maxHeartbeats 800000 in
theorem laws_eqIntSS (A A' : Option Addr) (c c' B B' : Nat) (Ls : List (List Int)) (w : World) (h : SlSS w B A Ls) (h' : SlSS w B' A' Ls) (hl : Ls.length ≤ 1000000) (hr : ∀ j, j < Ls.length → (rowOf Ls j).length ≤ 1000000) :
    Calls Try.prog 43 #[.slice A Ls.length c, .slice A' Ls.length c'] w fun e w' => e = .returned (.bool true) ∧ Below w.heap.size w w' := by
  obtain ⟨n, hn⟩ : ∃ n, Ls.length = n := ⟨_, rfl⟩
  have Hn := Lib.hid hn
  have H := Lib.hid h
  have H' := Lib.hid h'
  have Hr := Lib.hid hr
  rw [hn] at hl ⊢
  clear hn h h' hr
  go_enter Try.func43, Try.ntmps43
  go_wp2
  go_loopw [5] (fun i wr => ∃ k : Nat, k ≤ n ∧ i = .int .i64 k ∧ SlSS wr B A Ls ∧ SlSS wr B' A' Ls ∧ Below w.heap.size w wr) (fun i _ => n - (intOf i).toNat)
  case atStart => exact ⟨0, Nat.zero_le _, rfl, H.out, H'.out, Below.refl _ _⟩
  case round =>
    obtain ⟨k, hk, rfl, hA, hA', hb⟩ := hrel
    by_cases hlt : k < n
    · obtain ⟨b, off, rfl, hbB, hc⟩   := hA (by rw [Hn.out]; omega)
      obtain ⟨b', off', rfl, hbB', hc'⟩ := hA' (by rw [Hn.out]; omega)
      obtain ⟨Aj, cj, g, hs⟩ := hc k (by rw [Hn.out]; exact hlt)
      obtain ⟨Aj', cj', g', hs'⟩ := hc' k (by rw [Hn.out]; exact hlt)
      have i0 : (0 : Int) ≤ (k : Int) := by omega
      have i1 : (k : Int) < (n : Int) := by omega
      have hrk := Hr.out k (by rw [Hn.out]; exact hlt)
      have Heq := Lib.hid fun m => laws_eqIntS_q Aj Aj' cj cj' B B' (rowOf Ls k) (wr.drewN m) (hs.drewN m) (hs'.drewN m) (by omega)
      have HA := Lib.hid hA
      have HA' := Lib.hid hA'
      clear hc hc' hs hs' hA hA'
      generalize (rowOf Ls k).length = m at *
      go_wp2
      go_quiet ((go_at_call 85; with_reducible exact Calls.quiet_of (Heq.out _)))
      go_wp2
      go_roundw
      case rel => exact ⟨k + 1, by omega, by go_num, HA.out.drewN _, HA'.out.drewN _, below_drewN hb _⟩
      case measure => simp [intOf]; omega
    · go_wp2
      go_ret
      exact ⟨rfl, hb⟩

/-- how many numbers the first j lists have -/
def pre (Ls : List (List Int)) (j : Nat) : Nat := ((Ls.take j).map List.length).sum
theorem pre_zero (Ls : List (List Int)) : pre Ls 0 = 0 := by simp [pre]
theorem pre_succ (Ls : List (List Int)) (j : Nat) (h : j < Ls.length) : pre Ls (j + 1) = pre Ls j + (rowOf Ls j).length := by
  unfold pre rowOf
  rw [List.take_succ_eq_append_getElem h]
  simp only [List.map_append, List.sum_append, List.map_cons, List.map_nil, List.sum_cons, List.sum_nil]
  simp [h]
theorem pre_le (Ls : List (List Int)) (j d : Nat) (h : j + d ≤ Ls.length) : pre Ls j ≤ pre Ls (j + d) := by
  induction d with
  | zero => exact Nat.le_refl _
  | succ d ih =>
    have := ih (by omega)
    rw [show j + (d + 1) = (j + d) + 1 by omega, pre_succ Ls (j + d) (by omega)]
    omega
/-- the first j lists marked, one after the other, from 1 on -/
def mkd (Ls : List (List Int)) (j : Nat) : List (List Int) := (List.range Ls.length).map fun i => if i < j then marksI (rowOf Ls i).length (1 + (pre Ls i : Int)) else rowOf Ls i
theorem mkd_length (Ls : List (List Int)) (j : Nat) : (mkd Ls j).length = Ls.length := by simp [mkd]
theorem mkd_row (Ls : List (List Int)) (j i : Nat) (h : i < Ls.length) : rowOf (mkd Ls j) i = if i < j then marksI (rowOf Ls i).length (1 + (pre Ls i : Int)) else rowOf Ls i := by
  conv => lhs; unfold rowOf mkd
  simp [h]
theorem mkd_row_length (Ls : List (List Int)) (j i : Nat) (h : i < Ls.length) : (rowOf (mkd Ls j) i).length = (rowOf Ls i).length := by
  rw [mkd_row Ls j i h]
  split
  · rw [marksI_length]
  · rfl
theorem mkd_zero (Ls : List (List Int)) : mkd Ls 0 = Ls := by
  apply List.ext_getElem
  · exact mkd_length Ls 0
  · intro i h1 h2
    have := mkd_row Ls 0 i h2
    unfold rowOf at this
    simpa [h1, h2, mkd_length] using this

def halfK (l : List Int) (k : Nat) (m : Int) : List Int := marksI k m ++ l.drop k
theorem halfK_length (l : List Int) (k : Nat) (m : Int) (h : k ≤ l.length) : (halfK l k m).length = l.length := by simp [halfK, marksI_length]; omega
theorem halfK_zero (l : List Int) (m : Int) : halfK l 0 m = l := by simp [halfK, marksI]
theorem halfK_all (l : List Int) (m : Int) : halfK l l.length m = marksI l.length m := by simp [halfK]
theorem halfK_succ (l : List Int) (k : Nat) (m : Int) (h : k < l.length) : (halfK l k m).set k (m + (k : Int)) = halfK l (k + 1) m := by
  unfold halfK
  rw [marksI_succ, List.set_append_right _ _ (by simp [marksI_length])]
  simp only [marksI_length, Nat.sub_self, List.append_assoc]
  congr 1
  rw [List.drop_eq_getElem_cons h, List.set_cons_zero]
  rfl

set_option maxHeartbeats 800000 in
theorem laws_markIntS_m (g cap base e : Nat) (l : List Int) (m : Int) (w : World) (h : w.ownsRow base e 1 (.slice (some ⟨g, 0, none⟩) l.length cap) l.length (ics l)) (hl : l.length ≤ 1000000000) (hm : 0 ≤ m ∧ m ≤ 4000000000) :
    Calls Try.prog 86 #[.slice (some ⟨g, 0, none⟩) l.length cap, .int .i64 m] w fun r w' => r = .returned (.int .i64 (m + (l.length : Int))) ∧
      w'.ownsRow base e 1 (.slice (some ⟨g, 0, none⟩) l.length cap) l.length (ics (marksI l.length m)) ∧ w.grownBy w' (some g) := by
  obtain ⟨_, _⟩ := hm
  go_enter Try.func86, Try.ntmps86
  go_wp2
  go_loopw [1, 5] (fun q i wr => ∃ k : Nat, k ≤ l.length ∧ i = .int .i64 k ∧ q = .int .i64 (m + (k : Int)) ∧ wr.ownsRow base e 1 (.slice (some ⟨g, 0, none⟩) l.length cap) l.length (ics (halfK l k m)) ∧ w.grownBy wr (some g)) (fun _ i _ => l.length - (intOf i).toNat)
  case atStart => exact ⟨0, Nat.zero_le _, rfl, by simp, by rw [halfK_zero]; exact h, World.grownBy.refl w _⟩
  case round =>
    obtain ⟨k, hk, rfl, rfl, ho, hg⟩ := hrel
    by_cases hlt : k < l.length
    · have hcell : wr.cell? ⟨g, k, none⟩ = some (.int .i64 ((halfK l k m).getD k 0)) := by
        rw [ho.cellAt k (by omega), ics_get _ _ (by rw [halfK_length l k m hk]; exact hlt)]
      have hfro := ho.frozenAt k
      have hst := ho.stored k (.int .i64 (m + (k : Int)))
      rw [ics_set, halfK_succ l k m hlt] at hst
      obtain ⟨hs1, hs2⟩ := hst
      have hs3 := hg.trans hs2
      have k1 : (k : Int) ≤ 1000000000 := by omega
      clear ho h hs2 hg
      go_wp2
      go_roundw
      case rel => exact ⟨k + 1, by omega, by go_num, by simp; omega, hs1, hs3⟩
      case measure => simp [intOf]; omega
    · obtain rfl : k = l.length := by omega
      rw [halfK_all] at ho
      go_wp2
      go_ret
      exact ⟨rfl, ho, hg⟩
theorem laws_markIntS_m_nil (c : Nat) (m : Int) (w : World) : Calls Try.prog 86 #[.slice none 0 c, .int .i64 m] w fun r w' => r = .returned (.int .i64 m) ∧ w = w' := by
  go_enter Try.func86, Try.ntmps86
  go_wp2
  refine wp_loop_rounds 1 ?_
  rw [rounds_succ]
  go_wp2
  go_ret
  exact ⟨rfl, rfl⟩
theorem laws_markIntS_m_any (v : Value) (base e : Nat) (l : List Int) (m : Int) (w : World) (h : w.ownsRow base e 1 v l.length (ics l)) (hl : l.length ≤ 1000000000) (hm : 0 ≤ m ∧ m ≤ 4000000000) :
    Calls Try.prog 86 #[v, .int .i64 m] w fun r w' => r = .returned (.int .i64 (m + (l.length : Int))) ∧
      w'.ownsRow base e 1 v l.length (ics (marksI l.length m)) ∧ w.grownBy w' v.ownBlock := by
  have h0 := h
  rcases h.2 with ⟨rfl, hn⟩ | ⟨g, cap, cur, rfl, r⟩
  · obtain rfl : l = [] := List.eq_nil_of_length_eq_zero hn
    refine (laws_markIntS_m_nil 0 m w).mono ?_
    rintro r w' ⟨rfl, rfl⟩
    exact ⟨by simp, h0, World.grownBy.refl w _⟩
  · exact (laws_markIntS_m g cap base e l m w h0 hl hm)

set_option maxHeartbeats 800000 in
theorem laws_heldIntS_k (A : Option Addr) (c B n : Nat) (m : Int) (w : World) (h : SlI w B A (marksI n m)) (hl : n ≤ 1000000000) (hm : 0 ≤ m ∧ m ≤ 4000000000) :
    Calls Try.prog 87 #[.slice A n c, .int .i64 m] w fun e w' => e = .returned (.int .i64 (m + (n : Int))) ∧ w = w' := by
  obtain ⟨_, _⟩ := hm
  go_enter Try.func87, Try.ntmps87
  go_wp2
  go_loop [1, 5] (fun q i => ∃ k : Nat, k ≤ n ∧ i = .int .i64 k ∧ q = .int .i64 (m + (k : Int))) (fun _ i => n - (intOf i).toNat)
  case atStart => exact ⟨0, Nat.zero_le _, rfl, by simp⟩
  case round =>
    obtain ⟨k, hk, rfl, rfl⟩ := hrel
    by_cases hlt : k < n
    · obtain ⟨b, off, rfl, hbB, hc⟩ := h (by rw [marksI_length]; omega)
      have g := hc k (by rw [marksI_length]; omega)
      rw [marksI_get n m k hlt] at g
      have k1 : (k : Int) ≤ 1000000000 := by omega
      clear hc h
      go_wp2
      go_round
      case rel => exact ⟨k + 1, by omega, by go_num, by simp; omega⟩
      case measure => simp [intOf]; omega
    · obtain rfl : k = n := by omega
      go_wp2
      go_ret
      exact ⟨rfl, rfl⟩

set_option maxHeartbeats 800000 in
theorem laws_heldIntSS (A : Option Addr) (c B : Nat) (Ls : List (List Int)) (w : World) (h : SlSS w B A (mkd Ls Ls.length)) (hl : Ls.length ≤ 1000000) (hp : pre Ls Ls.length ≤ 1000000) :
    Calls Try.prog 45 #[.slice A Ls.length c, .int .i64 1] w fun e w' => e = .returned (.int .i64 (1 + (pre Ls Ls.length : Int))) ∧ w = w' := by
  obtain ⟨n, hn⟩ : ∃ n, Ls.length = n := ⟨_, rfl⟩
  have Hn := Lib.hid hn
  have hml : (mkd Ls n).length = n := by rw [mkd_length, hn]
  rw [hn] at hl hp h ⊢
  have Hml := Lib.hid hml
  have H := Lib.hid h
  have Hp := Lib.hid hp
  clear hn h hp hml
  go_enter Try.func45, Try.ntmps45
  go_wp2
  go_loop [1, 5] (fun q i => ∃ k : Nat, k ≤ n ∧ i = .int .i64 k ∧ q = .int .i64 (1 + (pre Ls k : Int))) (fun _ i => n - (intOf i).toNat)
  case atStart => exact ⟨0, Nat.zero_le _, rfl, by simp [pre_zero]⟩
  case round =>
    obtain ⟨k, hk, rfl, rfl⟩ := hrel
    by_cases hlt : k < n
    · obtain ⟨b, off, rfl, hbB, hc⟩ := H.out (by rw [Hml.out]; omega)
      obtain ⟨Aj, cj, g, hs⟩ := hc k (by rw [Hml.out]; exact hlt)
      have hkl : k < Ls.length := by rw [Hn.out]; exact hlt
      rw [mkd_row_length Ls n k hkl] at g
      rw [mkd_row Ls n k hkl, if_pos hlt] at hs
      have i0 : (0 : Int) ≤ (k : Int) := by omega
      have i1 : (k : Int) < (n : Int) := by omega
      have hps := pre_succ Ls k hkl
      have hpl := pre_le Ls (k + 1) (n - (k + 1)) (by rw [Hn.out]; omega)
      rw [show k + 1 + (n - (k + 1)) = n by omega] at hpl
      have hp1 := Hp.out
      have Hcall := Lib.hid (laws_heldIntS_k Aj cj B (rowOf Ls k).length (1 + (pre Ls k : Int)) w hs (by omega) (by omega))
      have he : 1 + (pre Ls k : Int) + ((rowOf Ls k).length : Int) = 1 + (pre Ls (k + 1) : Int) := by rw [hps]; omega
      have he0 : ¬ 1 + (pre Ls k : Int) + ((rowOf Ls k).length : Int) < 0 := by omega
      have He := Lib.hid he
      clear hc hs hps he hpl hp1
      generalize (rowOf Ls k).length = m at *
      generalize (pre Ls k : Int) = p at *
      go_wp2_with fail
      refine Hcall.out.mono ?_
      rintro e w1 ⟨rfl, rfl⟩
      go_wp2
      go_round
      case rel => exact ⟨k + 1, by omega, by go_num, by rw [He.out]⟩
      case measure => simp [intOf]; omega
    · obtain rfl : k = n := by omega
      go_wp2
      go_ret
      exact ⟨rfl, rfl⟩

set_option maxHeartbeats 1600000 in
theorem laws_markIntSS (A : Option Addr) (c base : Nat) (rs : List Value) (Ls : List (List Int)) (w : World) (h : OwnSS w base A c rs Ls) (hbase : base ≤ w.heap.size) (hl : Ls.length ≤ 1000000) (hp : pre Ls Ls.length ≤ 1000000) :
    Calls Try.prog 44 #[.slice A Ls.length c, .int .i64 1] w fun e w' => e = .returned (.int .i64 (1 + (pre Ls Ls.length : Int))) ∧ OwnSS w' base A c rs (mkd Ls Ls.length) ∧ Below base w w' := by
  obtain ⟨n, hn⟩ : ∃ n, Ls.length = n := ⟨_, rfl⟩
  have Hn := Lib.hid hn
  rw [hn] at hl hp ⊢
  have H := Lib.hid h
  have Hp := Lib.hid hp
  clear hn h hp
  go_enter Try.func44, Try.ntmps44
  go_wp2
  go_loopw [1, 5] (fun q i wr => ∃ k : Nat, k ≤ n ∧ i = .int .i64 k ∧ q = .int .i64 (1 + (pre Ls k : Int)) ∧ OwnSS wr base A c rs (mkd Ls k) ∧ Below base w wr) (fun _ i _ => n - (intOf i).toNat)
  case atStart => exact ⟨0, Nat.zero_le _, rfl, by simp [pre_zero], by rw [mkd_zero]; exact H.out, Below.refl _ _⟩
  case round =>
    obtain ⟨k, hk, rfl, rfl, ho, hb⟩ := hrel
    by_cases hlt : k < n
    · have hkl : k < Ls.length := by rw [Hn.out]; exact hlt
      have hml : (mkd Ls k).length = n := by rw [mkd_length, Hn.out]
      obtain ⟨g, rfl, hg1, hg2, hc⟩ := ho.outer (by omega)
      have g0 := hc k (by omega)
      have hrow := ho.2.2.1 k (by omega)
      have hne := own_ne hrow ho.2.1 (by decide)
      have hrk : rowOf (mkd Ls k) k = rowOf Ls k := by rw [mkd_row Ls k k hkl, if_neg (by omega)]
      rw [hrk] at hrow
      obtain ⟨Aj, cj, hv⟩ := own_form hrow
      have i0 : (0 : Int) ≤ (k : Int) := by omega
      have i1 : (k : Int) < (n : Int) := by omega
      have hps := pre_succ Ls k hkl
      have hpl := pre_le Ls (k + 1) (n - (k + 1)) (by rw [Hn.out]; omega)
      rw [show k + 1 + (n - (k + 1)) = n by omega] at hpl
      have hp1 := Hp.out
      have hcall := laws_markIntS_m_any (rvOf rs k) base 3 (rowOf Ls k) (1 + (pre Ls k : Int)) wr hrow (by omega) (by omega)
      have hend : ∀ w', w'.ownsRow base 3 1 (rvOf rs k) (rowOf Ls k).length (ics (marksI (rowOf Ls k).length (1 + (pre Ls k : Int)))) → wr.grownBy w' (rvOf rs k).ownBlock → OwnSS w' base (some ⟨g, 0, none⟩) c rs (mkd Ls (k + 1)) ∧ Below base w w' := by
        intro w' hnew hgr
        have hlen : (mkd Ls (k + 1)).length = (mkd Ls k).length := by rw [mkd_length, mkd_length]
        refine ⟨⟨by rw [ho.1, hlen], ?_, fun j hj => ?_, fun i j hi hj => ho.2.2.2 i j (by omega) (by omega)⟩, ?_⟩
        · rw [hlen]
          exact own_far ho.2.1 hgr (fun z hz e => hne z e.symm hz.symm)
        · have hj2 : j < Ls.length := by rw [hlen, mkd_length] at hj; exact hj
          by_cases hjk : j = k
          · subst hjk
            rw [mkd_row Ls (j + 1) j hj2, if_pos (by omega), marksI_length]
            exact hnew
          · have e : rowOf (mkd Ls (k + 1)) j = rowOf (mkd Ls k) j := by
              rw [mkd_row Ls (k + 1) j hj2, mkd_row Ls k j hj2]
              by_cases h1 : j < k
              · rw [if_pos h1, if_pos (by omega)]
              · rw [if_neg h1, if_neg (by omega)]
            rw [e]
            exact own_far (ho.2.2.1 j (by omega)) hgr (fun z hz => ho.2.2.2 j k (by omega) (by omega) hjk z hz)
        · exact hb.grown hgr (Nat.le_trans hbase hb.size) (fun z hz => (hrow.lt z hz).1)
      have he : 1 + (pre Ls k : Int) + ((rowOf Ls k).length : Int) = 1 + (pre Ls (k + 1) : Int) := by rw [hps]; omega
      have He := Lib.hid he
      rw [hv] at hcall hend g0
      have Hcall := Lib.hid hcall
      have Hend := Lib.hid hend
      clear hc hps he hpl hp1 hcall hend hv hrow hne hrk hml ho
      generalize (rowOf Ls k).length = m at *
      generalize hpp : (pre Ls k : Int) = p at *
      clear hpp
      go_wp2_with fail
      refine Hcall.out.mono ?_
      rintro e w1 ⟨rfl, hnew, hgr⟩
      have HE := Lib.hid (Hend.out _ hnew hgr)
      clear hnew hgr hb
      go_wp2
      go_roundw
      case rel => exact ⟨k + 1, by omega, by go_num, by rw [He.out], HE.out.1, HE.out.2⟩
      case measure => simp [intOf]; omega
    · obtain rfl : k = n := by omega
      go_wp2
      go_ret
      exact ⟨rfl, ho, hb⟩

/-- what a function gives back that makes a list of lists: in new memory, and whether it succeeds -/
def RetSS (w : World) (Ls : List (List Int)) (ok : Bool) (e : Ending) (w' : World) : Prop :=
  ∃ A c rs, e = .returned (.tuple #[.slice A Ls.length c, .bool ok]) ∧ OwnSS w' w.heap.size A c rs Ls ∧ Below w.heap.size w w'
end Go.Proofs.Ytbpaaoeefcebeab
