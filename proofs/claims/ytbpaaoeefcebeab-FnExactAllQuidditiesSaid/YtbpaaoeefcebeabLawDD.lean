/- Contracts of the laws' own helpers over slices of slices of diagonals: compared, marked, held; and how such lists lie in memory. -/
import Derived.Test.YtbpaaoeefcebeabLawK2
import Derived.Deep.QuietTactic
import Derived.BigQuiet
import Derived.Deep.RegionHeld3
namespace Go.Proofs.Ytbpaaoeefcebeab
set_option linter.unusedVariables false
open Go.RowKit

def rowD (Ls : List (List (Int × Int))) (j : Nat) : List (Int × Int) := Ls.getD j []
def rvD (rs : List Value) (j : Nat) : Value := rs.getD j (.slice none 0 0)
/-- a slice's value leads to slices that lead to the lists, all below block B -/
def SlDD (w : World) (B : Nat) (A : Option Addr) (Ls : List (List (Int × Int))) : Prop :=
  0 < Ls.length → ∃ b off, A = some ⟨b, off, none⟩ ∧ b < B ∧ ∀ j, j < Ls.length → ∃ Aj cj, w.cell? ⟨b, off + j, none⟩ = some (.slice Aj (rowD Ls j).length cj) ∧ SlD w B Aj (rowD Ls j)
theorem SlDD.keep {w w' : World} {B : Nat} {A : Option Addr} {Ls : List (List (Int × Int))} (h : SlDD w B A Ls) (hk : ∀ b o, b < B → w'.cell? ⟨b, o, none⟩ = w.cell? ⟨b, o, none⟩) : SlDD w' B A Ls := fun h0 => by
  obtain ⟨b, off, e, hb, hc⟩ := h h0
  refine ⟨b, off, e, hb, fun j hj => ?_⟩
  obtain ⟨Aj, cj, h1, h2⟩ := hc j hj
  exact ⟨Aj, cj, (hk _ _ hb).trans h1, h2.keep hk⟩
theorem SlDD.drewN {w : World} {B : Nat} {A : Option Addr} {Ls : List (List (Int × Int))} (h : SlDD w B A Ls) (z : Nat) : SlDD (w.drewN z) B A Ls := h
theorem SlDD.below {w w' : World} {B : Nat} {A : Option Addr} {Ls : List (List (Int × Int))} (h : SlDD w B A Ls) (hb : Below B w w') : SlDD w' B A Ls := h.keep fun _ _ hp => hb.cell hp
/-- rows of rows of the call's own: the outer one's cells are the slices' values; no two inner ones share a block -/
def OwnDD (w : World) (base : Nat) (A : Option Addr) (c : Nat) (rs : List Value) (Ls : List (List (Int × Int))) : Prop :=
  rs.length = Ls.length ∧ w.ownsRow base 26 1 (.slice A Ls.length c) Ls.length rs ∧ (∀ j, j < Ls.length → w.ownsRow base 65 2 (rvD rs j) (rowD Ls j).length (dcs (rowD Ls j))) ∧
    (∀ i j, i < Ls.length → j < Ls.length → i ≠ j → ∀ k, (rvD rs i).ownBlock = some k → some k ≠ (rvD rs j).ownBlock)
section
variable {w w' : World} {base : Nat} {A : Option Addr} {c : Nat} {rs : List Value} {Ls : List (List (Int × Int))}
theorem OwnDD.nil_ : OwnDD w base none 0 [] [] := ⟨rfl, World.ownsRow_nil _ _ _ _, fun j hj => by simp at hj, fun i j hi => by simp at hi⟩
theorem OwnDD.mono {base' : Nat} (h : OwnDD w base A c rs Ls) (hb : base' ≤ base) : OwnDD w base' A c rs Ls := ⟨h.1, h.2.1.mono hb, fun j hj => (h.2.2.1 j hj).mono hb, h.2.2.2⟩
theorem OwnDD.kept (h : OwnDD w base A c rs Ls) (hb : Below w.heap.size w w') : OwnDD w' base A c rs Ls := ⟨h.1, own_kept h.2.1 hb, fun j hj => own_kept (h.2.2.1 j hj) hb, h.2.2.2⟩
theorem OwnDD.far {row : Option Nat} (h : OwnDD w base A c rs Ls) (hg : w.grownBy w' row) (hr : ∀ k, row = some k → k < base) : OwnDD w' base A c rs Ls := by
  have hne : ∀ {e s n : Nat} {v : Value} {xs : List Value}, w.ownsRow base e s v n xs → ∀ k, v.ownBlock = some k → some k ≠ row := fun ho k hk e => by
    have h1 := (ho.lt k hk).1
    have h2 := hr k e.symm
    omega
  exact ⟨h.1, own_far h.2.1 hg (hne h.2.1), fun j hj => own_far (h.2.2.1 j hj) hg (hne (h.2.2.1 j hj)), h.2.2.2⟩
theorem rvD_get {rs : List Value} {j : Nat} (h : j < rs.length) : rs[j]? = some (rvD rs j) := by
  unfold rvD
  simp [h]
theorem OwnDD.outer (h : OwnDD w base A c rs Ls) (h0 : 0 < Ls.length) : ∃ g, A = some ⟨g, 0, none⟩ ∧ base ≤ g ∧ g < w.heap.size ∧ ∀ j, j < Ls.length → w.cell? ⟨g, j, none⟩ = some (rvD rs j) := by
  obtain ⟨g, cap, hv, hb, hlt⟩ := h.2.1.form h0
  have hA : A = some ⟨g, 0, none⟩ := by injection hv
  subst hA
  refine ⟨g, rfl, hb, hlt, fun j hj => ?_⟩
  have := h.2.1.cellAt j (by omega)
  rw [this, rvD_get (by rw [h.1]; exact hj)]
theorem OwnDD.sl (h : OwnDD w base A c rs Ls) : SlDD w w.heap.size A Ls := fun h0 => by
  obtain ⟨g, rfl, hb, hlt, hc⟩ := h.outer h0
  refine ⟨g, 0, rfl, hlt, fun j hj => ?_⟩
  have ho := h.2.2.1 j hj
  obtain ⟨Aj, cj, hv⟩ := own_form ho
  have hcj := hc j hj
  rw [hv] at hcj ho
  exact ⟨Aj, cj, by rw [Nat.zero_add]; exact hcj, SlD.of_own ho⟩
end


set_option maxHeartbeats 1600000 in
theorem laws_eqDiagonalSS (A A' : Option Addr) (c c' B B' : Nat) (Ls : List (List (Int × Int))) (w : World) (h : SlDD w B A Ls) (h' : SlDD w B' A' Ls) (hB : B ≤ w.heap.size) (hB' : B' ≤ w.heap.size) (hl : Ls.length ≤ 1000000) (hr : ∀ j, j < Ls.length → (rowD Ls j).length ≤ 1000000) :
    Calls Try.prog 34 #[.slice A Ls.length c, .slice A' Ls.length c'] w fun e w' => e = .returned (.bool true) ∧ Below w.heap.size w w' := by
  obtain ⟨n, hn⟩ : ∃ n, Ls.length = n := ⟨_, rfl⟩
  have Hn := Lib.hid hn
  have H := Lib.hid h
  have H' := Lib.hid h'
  have Hr := Lib.hid hr
  rw [hn] at hl ⊢
  clear hn h h' hr
  go_enter Try.func34, Try.ntmps34
  go_wp2
  go_loopw [5] (fun i wr => ∃ k : Nat, k ≤ n ∧ i = .int .i64 k ∧ Below w.heap.size w wr) (fun i _ => n - (intOf i).toNat)
  case atStart => exact ⟨0, Nat.zero_le _, rfl, Below.refl _ _⟩
  case round =>
    obtain ⟨k, hk, rfl, hb⟩ := hrel
    by_cases hlt : k < n
    · obtain ⟨b, off, rfl, hbB, hc⟩   := (H.out.below (hb.mono hB)) (by rw [Hn.out]; omega)
      obtain ⟨b', off', rfl, hbB', hc'⟩ := (H'.out.below (hb.mono hB')) (by rw [Hn.out]; omega)
      obtain ⟨Aj, cj, g, hs⟩ := hc k (by rw [Hn.out]; exact hlt)
      obtain ⟨Aj', cj', g', hs'⟩ := hc' k (by rw [Hn.out]; exact hlt)
      have i0 : (0 : Int) ≤ (k : Int) := by omega
      have i1 : (k : Int) < (n : Int) := by omega
      have hrk := Hr.out k (by rw [Hn.out]; exact hlt)
      have hbz : B ≤ wr.heap.size := Nat.le_trans hB hb.size
      have hbz' : B' ≤ wr.heap.size := Nat.le_trans hB' hb.size
      have Heq := Lib.hid fun m => laws_eqDiagonalS Aj Aj' cj cj' B B' (rowD Ls k) (wr.drewN m) (hs.drewN m) (hs'.drewN m) hbz hbz' (by omega)
      clear hc hc' hs hs'
      generalize (rowD Ls k).length = m at *
      go_wp2
      go_region_held3 (fun w' => w'.cell? ⟨b, off + k, none⟩ = some (.slice Aj m cj) ∧ w'.cell? ⟨b', off' + k, none⟩ = some (.slice Aj' m cj') ∧ Below w.heap.size w w')
        (first
          | exact kept2 (by assumption) hb1 (Nat.le_refl _)
          | exact ⟨g, g', hb.drew⟩)
        (first
          | (go_at_call 19; refine (Heq.out 1).mono ?_; rintro e w1 ⟨rfl, hb1⟩))
      rename_i hS
      have hd := hS.2.2
      clear hS hb1 hb
      go_wp2
      go_roundw
      case rel => exact ⟨k + 1, by omega, by go_num, hd⟩
      case measure => simp [intOf]; omega
    · go_wp2
      go_ret
      exact ⟨rfl, hb⟩

/-- how many pairs the first j lists have -/
def preD (Ls : List (List (Int × Int))) (j : Nat) : Nat := ((Ls.take j).map List.length).sum
theorem preD_zero (Ls : List (List (Int × Int))) : preD Ls 0 = 0 := by simp [preD]
theorem preD_succ (Ls : List (List (Int × Int))) (j : Nat) (h : j < Ls.length) : preD Ls (j + 1) = preD Ls j + (rowD Ls j).length := by
  unfold preD rowD
  rw [List.take_succ_eq_append_getElem h]
  simp only [List.map_append, List.sum_append, List.map_cons, List.map_nil, List.sum_cons, List.sum_nil]
  simp [h]
theorem preD_le (Ls : List (List (Int × Int))) (j d : Nat) (h : j + d ≤ Ls.length) : preD Ls j ≤ preD Ls (j + d) := by
  induction d with
  | zero => exact Nat.le_refl _
  | succ d ih =>
    have := ih (by omega)
    rw [show j + (d + 1) = (j + d) + 1 by omega, preD_succ Ls (j + d) (by omega)]
    omega
/-- the first j lists marked, one after the other, from 1 on -/
def mkD (Ls : List (List (Int × Int))) (j : Nat) : List (List (Int × Int)) := (List.range Ls.length).map fun i => if i < j then marksDk (rowD Ls i).length (1 + 2 * (preD Ls i : Int)) else rowD Ls i
theorem mkD_length (Ls : List (List (Int × Int))) (j : Nat) : (mkD Ls j).length = Ls.length := by simp [mkD]
theorem mkD_row (Ls : List (List (Int × Int))) (j i : Nat) (h : i < Ls.length) : rowD (mkD Ls j) i = if i < j then marksDk (rowD Ls i).length (1 + 2 * (preD Ls i : Int)) else rowD Ls i := by
  conv => lhs; unfold rowD mkD
  simp [h]
theorem mkD_row_length (Ls : List (List (Int × Int))) (j i : Nat) (h : i < Ls.length) : (rowD (mkD Ls j) i).length = (rowD Ls i).length := by
  rw [mkD_row Ls j i h]
  split
  · rw [marksDk_length]
  · rfl
theorem mkD_zero (Ls : List (List (Int × Int))) : mkD Ls 0 = Ls := by
  apply List.ext_getElem
  · exact mkD_length Ls 0
  · intro i h1 h2
    have := mkD_row Ls 0 i h2
    unfold rowD at this
    simpa [h1, h2, mkD_length] using this

set_option maxHeartbeats 800000 in
theorem laws_heldDiagonalSS (A : Option Addr) (c B : Nat) (Ls : List (List (Int × Int))) (w : World) (h : SlDD w B A (mkD Ls Ls.length)) (hl : Ls.length ≤ 1000000) (hp : preD Ls Ls.length ≤ 1000000) :
    Calls Try.prog 36 #[.slice A Ls.length c, .int .i64 1] w fun e w' => e = .returned (.int .i64 (1 + 2 * (preD Ls Ls.length : Int))) ∧ w = w' := by
  obtain ⟨n, hn⟩ : ∃ n, Ls.length = n := ⟨_, rfl⟩
  have Hn := Lib.hid hn
  have hml : (mkD Ls n).length = n := by rw [mkD_length, hn]
  rw [hn] at hl hp h ⊢
  have Hml := Lib.hid hml
  have H := Lib.hid h
  have Hp := Lib.hid hp
  clear hn h hp hml
  go_enter Try.func36, Try.ntmps36
  go_wp2
  go_loop [1, 5] (fun q i => ∃ k : Nat, k ≤ n ∧ i = .int .i64 k ∧ q = .int .i64 (1 + 2 * (preD Ls k : Int))) (fun _ i => n - (intOf i).toNat)
  case atStart => exact ⟨0, Nat.zero_le _, rfl, by simp [preD_zero]⟩
  case round =>
    obtain ⟨k, hk, rfl, rfl⟩ := hrel
    by_cases hlt : k < n
    · obtain ⟨b, off, rfl, hbB, hc⟩ := H.out (by rw [Hml.out]; omega)
      obtain ⟨Aj, cj, g, hs⟩ := hc k (by rw [Hml.out]; exact hlt)
      have hkl : k < Ls.length := by rw [Hn.out]; exact hlt
      rw [mkD_row_length Ls n k hkl] at g
      rw [mkD_row Ls n k hkl, if_pos hlt] at hs
      have i0 : (0 : Int) ≤ (k : Int) := by omega
      have i1 : (k : Int) < (n : Int) := by omega
      have hps := preD_succ Ls k hkl
      have hpl := preD_le Ls (k + 1) (n - (k + 1)) (by rw [Hn.out]; omega)
      rw [show k + 1 + (n - (k + 1)) = n by omega] at hpl
      have hp1 := Hp.out
      have Hcall := Lib.hid (laws_heldDiagonalS_k Aj cj B (rowD Ls k).length (1 + 2 * (preD Ls k : Int)) w hs (by omega) (by omega))
      have he : 1 + 2 * (preD Ls k : Int) + 2 * ((rowD Ls k).length : Int) = 1 + 2 * (preD Ls (k + 1) : Int) := by rw [hps]; omega
      have he0 : ¬ 1 + 2 * (preD Ls k : Int) + 2 * ((rowD Ls k).length : Int) < 0 := by omega
      have He := Lib.hid he
      clear hc hs hps he hpl hp1
      generalize (rowD Ls k).length = m at *
      generalize (preD Ls k : Int) = p at *
      go_wp2_with fail
      refine Hcall.out.mono ?_
      rintro e w1 ⟨rfl, rfl⟩
      go_wp2
      go_round
      case rel => exact ⟨k + 1, by omega, by go_num, by rw [He.out]⟩
      case measure => simp [intOf]; omega
    · obtain rfl : k = n := by omega
      go_wp2
      go_ret
      exact ⟨rfl, rfl⟩

set_option maxHeartbeats 1600000 in
theorem laws_markDiagonalSS (A : Option Addr) (c base : Nat) (rs : List Value) (Ls : List (List (Int × Int))) (w : World) (h : OwnDD w base A c rs Ls) (hbase : base ≤ w.heap.size) (hl : Ls.length ≤ 1000000) (hp : preD Ls Ls.length ≤ 1000000) :
    Calls Try.prog 35 #[.slice A Ls.length c, .int .i64 1] w fun e w' => e = .returned (.int .i64 (1 + 2 * (preD Ls Ls.length : Int))) ∧ OwnDD w' base A c rs (mkD Ls Ls.length) ∧ Below base w w' := by
  obtain ⟨n, hn⟩ : ∃ n, Ls.length = n := ⟨_, rfl⟩
  have Hn := Lib.hid hn
  rw [hn] at hl hp ⊢
  have H := Lib.hid h
  have Hp := Lib.hid hp
  clear hn h hp
  go_enter Try.func35, Try.ntmps35
  go_wp2
  go_loopw [1, 5] (fun q i wr => ∃ k : Nat, k ≤ n ∧ i = .int .i64 k ∧ q = .int .i64 (1 + 2 * (preD Ls k : Int)) ∧ OwnDD wr base A c rs (mkD Ls k) ∧ Below base w wr) (fun _ i _ => n - (intOf i).toNat)
  case atStart => exact ⟨0, Nat.zero_le _, rfl, by simp [preD_zero], by rw [mkD_zero]; exact H.out, Below.refl _ _⟩
  case round =>
    obtain ⟨k, hk, rfl, rfl, ho, hb⟩ := hrel
    by_cases hlt : k < n
    · have hkl : k < Ls.length := by rw [Hn.out]; exact hlt
      have hml : (mkD Ls k).length = n := by rw [mkD_length, Hn.out]
      obtain ⟨g, rfl, hg1, hg2, hc⟩ := ho.outer (by omega)
      have g0 := hc k (by omega)
      have hrow := ho.2.2.1 k (by omega)
      have hne := own_ne hrow ho.2.1 (by decide)
      have hrk : rowD (mkD Ls k) k = rowD Ls k := by rw [mkD_row Ls k k hkl, if_neg (by omega)]
      rw [hrk] at hrow
      obtain ⟨Aj, cj, hv⟩ := own_form hrow
      have i0 : (0 : Int) ≤ (k : Int) := by omega
      have i1 : (k : Int) < (n : Int) := by omega
      have hps := preD_succ Ls k hkl
      have hpl := preD_le Ls (k + 1) (n - (k + 1)) (by rw [Hn.out]; omega)
      rw [show k + 1 + (n - (k + 1)) = n by omega] at hpl
      have hp1 := Hp.out
      have hcall := laws_markDiagonalS_m_any (rvD rs k) base 65 (rowD Ls k) (1 + 2 * (preD Ls k : Int)) wr hrow (by omega) (by omega)
      have hend : ∀ w', w'.ownsRow base 65 2 (rvD rs k) (rowD Ls k).length (dcs (marksDk (rowD Ls k).length (1 + 2 * (preD Ls k : Int)))) → wr.grownBy w' (rvD rs k).ownBlock → OwnDD w' base (some ⟨g, 0, none⟩) c rs (mkD Ls (k + 1)) ∧ Below base w w' := by
        intro w' hnew hgr
        have hlen : (mkD Ls (k + 1)).length = (mkD Ls k).length := by rw [mkD_length, mkD_length]
        refine ⟨⟨by rw [ho.1, hlen], ?_, fun j hj => ?_, fun i j hi hj => ho.2.2.2 i j (by omega) (by omega)⟩, ?_⟩
        · rw [hlen]
          exact own_far ho.2.1 hgr (fun z hz e => hne z e.symm hz.symm)
        · have hj2 : j < Ls.length := by rw [hlen, mkD_length] at hj; exact hj
          by_cases hjk : j = k
          · subst hjk
            rw [mkD_row Ls (j + 1) j hj2, if_pos (by omega), marksDk_length]
            exact hnew
          · have e : rowD (mkD Ls (k + 1)) j = rowD (mkD Ls k) j := by
              rw [mkD_row Ls (k + 1) j hj2, mkD_row Ls k j hj2]
              by_cases h1 : j < k
              · rw [if_pos h1, if_pos (by omega)]
              · rw [if_neg h1, if_neg (by omega)]
            rw [e]
            exact own_far (ho.2.2.1 j (by omega)) hgr (fun z hz => ho.2.2.2 j k (by omega) (by omega) hjk z hz)
        · exact hb.grown hgr (Nat.le_trans hbase hb.size) (fun z hz => (hrow.lt z hz).1)
      have he : 1 + 2 * (preD Ls k : Int) + 2 * ((rowD Ls k).length : Int) = 1 + 2 * (preD Ls (k + 1) : Int) := by rw [hps]; omega
      have He := Lib.hid he
      rw [hv] at hcall hend g0
      have Hcall := Lib.hid hcall
      have Hend := Lib.hid hend
      clear hc hps he hpl hp1 hcall hend hv hrow hne hrk hml ho
      generalize (rowD Ls k).length = m at *
      generalize hpp : (preD Ls k : Int) = p at *
      clear hpp
      go_wp2_with fail
      refine Hcall.out.mono ?_
      rintro e w1 ⟨rfl, hnew, hgr⟩
      have HE := Lib.hid (Hend.out _ hnew hgr)
      clear hnew hgr hb
      go_wp2
      go_roundw
      case rel => exact ⟨k + 1, by omega, by go_num, by rw [He.out], HE.out.1, HE.out.2⟩
      case measure => simp [intOf]; omega
    · obtain rfl : k = n := by omega
      go_wp2
      go_ret
      exact ⟨rfl, ho, hb⟩

/-- what a function gives back that makes a list of lists of diagonals: in new memory, and whether it succeeds -/
def RetDD (w : World) (Ls : List (List (Int × Int))) (ok : Bool) (e : Ending) (w' : World) : Prop :=
  ∃ A c rs, e = .returned (.tuple #[.slice A Ls.length c, .bool ok]) ∧ OwnDD w' w.heap.size A c rs Ls ∧ Below w.heap.size w w'
end Go.Proofs.Ytbpaaoeefcebeab
