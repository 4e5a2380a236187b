/- Rows that lie somewhere in blocks of their own (what is cut out of them), lists of such rows; the laws' helpers over them. -/
import Derived.Test.YtlnnnjnboknoeaaSSA
namespace Go.Proofs.Ytlnnnjnboknoeaa
set_option linter.unusedVariables false
open Go.RowKit

theorem own_capP {w : World} {base e size n c : Nat} {A : Option Addr} {xs : List Value} (h : w.ownsRow base e size (.slice A n c) n xs) : n ≤ c := by
  rcases h.2 with ⟨h', hn⟩ | ⟨g, cap, cur, h', _, _, hnc, _⟩
  · omega
  · injection h' with _ _ hc
    omega
/-- a row of numbers somewhere in a block of the call's own -/
def PcR (w : World) (base : Nat) (v : Value) (l : List Int) : Prop :=
  ∃ g o c C L, v = .slice (some ⟨g, o, none⟩) l.length c ∧ w.ownsRow base 3 1 (.slice (some ⟨g, 0, none⟩) L.length C) L.length (ics L) ∧ o + l.length ≤ L.length ∧ (L.drop o).take l.length = l ∧ l.length ≤ c
section
variable {w w' : World} {base : Nat} {v : Value} {l : List Int}
theorem PcR.form (h : PcR w base v l) : ∃ A c, v = .slice A l.length c := by
  obtain ⟨g, o, c, C, L, e, _⟩ := h
  exact ⟨_, _, e⟩
theorem PcR.lt (h : PcR w base v l) : ∀ k, v.ownBlock = some k → base ≤ k ∧ k < w.heap.size := fun k hk => by
  obtain ⟨g, o, c, C, L, rfl, ho, _⟩ := h
  exact ho.lt k hk
theorem PcR.sl (h : PcR w base v l) : ∃ g o c, v = .slice (some ⟨g, o, none⟩) l.length c ∧ base ≤ g ∧ g < w.heap.size ∧ l.length ≤ c ∧ SlI w w.heap.size (some ⟨g, o, none⟩) l := by
  obtain ⟨g, o, c, C, L, rfl, ho, h1, h2, hlc⟩ := h
  have hb := ho.lt g rfl
  refine ⟨g, o, c, rfl, hb.1, hb.2, hlc, fun _ => ⟨g, o, rfl, hb.2, fun j hj => ?_⟩⟩
  rw [ho.cellAt (o + j) (by omega), ics_get _ _ (by omega)]
  have : l.getD j 0 = L.getD (o + j) 0 := by
    conv => lhs; rw [← h2]
    simp only [List.getD_eq_getElem?_getD]
    rw [List.getElem?_take_of_lt hj, List.getElem?_drop]
  rw [this]
theorem PcR.mono {base' : Nat} (h : PcR w base v l) (hb : base' ≤ base) : PcR w base' v l := by
  obtain ⟨g, o, c, C, L, e, ho, h1, h2⟩ := h
  exact ⟨g, o, c, C, L, e, ho.mono hb, h1, h2⟩
theorem PcR.kept (h : PcR w base v l) (hb : Below w.heap.size w w') : PcR w' base v l := by
  obtain ⟨g, o, c, C, L, e, ho, h1, h2⟩ := h
  exact ⟨g, o, c, C, L, e, own_kept ho hb, h1, h2⟩
theorem PcR.far {row : Option Nat} (h : PcR w base v l) (hg : w.grownBy w' row) (hr : ∀ k, v.ownBlock = some k → some k ≠ row) : PcR w' base v l := by
  obtain ⟨g, o, c, C, L, rfl, ho, h1, h2⟩ := h
  exact ⟨g, o, c, C, L, rfl, own_far ho hg hr, h1, h2⟩
theorem PcR.alloc (h : PcR w base v l) (ob : Obj) : PcR (w.alloc ob) base v l := by
  obtain ⟨g, o, c, C, L, e, ho, h1, h2⟩ := h
  exact ⟨g, o, c, C, L, e, ho.alloc ob, h1, h2⟩
theorem PcR.of_own {g c : Nat} (h : w.ownsRow base 3 1 (.slice (some ⟨g, 0, none⟩) l.length c) l.length (ics l)) (hc : l.length ≤ c) : PcR w base (.slice (some ⟨g, 0, none⟩) l.length c) l := ⟨g, 0, c, c, l, rfl, h, by omega, by simp, hc⟩
/-- a part of a row, with no room behind it -/
theorem PcR.part {g o c : Nat} (h : PcR w base (.slice (some ⟨g, o, none⟩) l.length c) l) (i m : Nat) (hm : i + m ≤ l.length) : PcR w base (.slice (some ⟨g, o + i, none⟩) m m) ((l.drop i).take m) := by
  obtain ⟨g', o', c', C, L, e, ho, h1, h2, h3⟩ := h
  cases e
  have hl : ((l.drop i).take m).length = m := by simp; omega
  refine ⟨g, o + i, m, C, L, by rw [hl], ho, by rw [hl]; omega, ?_, by rw [hl]; exact Nat.le_refl _⟩
  rw [hl]
  conv => rhs; rw [← h2]
  refine List.ext_getElem? fun j => ?_
  by_cases hj : j < m
  · rw [List.getElem?_take_of_lt hj, List.getElem?_take_of_lt hj, List.getElem?_drop, List.getElem?_drop, List.getElem?_take_of_lt (by omega), List.getElem?_drop]
    congr 1; omega
  · rw [List.getElem?_eq_none (by simp; omega), List.getElem?_eq_none (by simp; omega)]
theorem pc_ne {A : Option Addr} {n c : Nat} {rs : List Value} (h : PcR w base v l) (ho : w.ownsRow base 35 1 (.slice A n c) n rs) : ∀ k, v.ownBlock = some k → some k ≠ (Value.slice A n c).ownBlock := by
  obtain ⟨g, o, c, C, L, rfl, hv, _⟩ := h
  intro k hk e
  exact own_ne hv ho (by decide) k hk e
end
/-- rows of such rows; no two lie in one block -/
def OwnPS (w : World) (base : Nat) (A : Option Addr) (c : Nat) (rs : List Value) (Ls : List (List Int)) : Prop :=
  rs.length = Ls.length ∧ w.ownsRow base 35 1 (.slice A Ls.length c) Ls.length rs ∧ (∀ j, j < Ls.length → PcR w base (rvOf rs j) (rowOf Ls j)) ∧
    (∀ i j, i < Ls.length → j < Ls.length → i ≠ j → ∀ k, (rvOf rs i).ownBlock = some k → some k ≠ (rvOf rs j).ownBlock)
section
variable {w w' : World} {base : Nat} {A : Option Addr} {c : Nat} {rs : List Value} {Ls : List (List Int)}
theorem OwnPS.nil_ : OwnPS w base none 0 [] [] := ⟨rfl, World.ownsRow_nil _ _ _ _, fun j hj => by simp at hj, fun i j hi => by simp at hi⟩
theorem OwnPS.mono {base' : Nat} (h : OwnPS w base A c rs Ls) (hb : base' ≤ base) : OwnPS w base' A c rs Ls := ⟨h.1, h.2.1.mono hb, fun j hj => (h.2.2.1 j hj).mono hb, h.2.2.2⟩
theorem OwnPS.kept (h : OwnPS w base A c rs Ls) (hb : Below w.heap.size w w') : OwnPS w' base A c rs Ls := ⟨h.1, own_kept h.2.1 hb, fun j hj => (h.2.2.1 j hj).kept hb, h.2.2.2⟩
theorem OwnPS.alloc (h : OwnPS w base A c rs Ls) (o : Obj) : OwnPS (w.alloc o) base A c rs Ls := ⟨h.1, h.2.1.alloc o, fun j hj => (h.2.2.1 j hj).alloc o, h.2.2.2⟩
theorem OwnPS.far {row : Option Nat} (h : OwnPS w base A c rs Ls) (hg : w.grownBy w' row) (hr : ∀ k, row = some k → k < base) : OwnPS w' base A c rs Ls :=
  ⟨h.1, own_far h.2.1 hg (fun k hk e => by
    have h1 := (h.2.1.lt k hk).1
    have h2 := hr k e.symm
    omega), fun j hj => (h.2.2.1 j hj).far hg (fun k hk e => by
    have h1 := ((h.2.2.1 j hj).lt k hk).1
    have h2 := hr k e.symm
    omega), h.2.2.2⟩
theorem OwnPS.outer (h : OwnPS w base A c rs Ls) (h0 : 0 < Ls.length) : ∃ g, A = some ⟨g, 0, none⟩ ∧ base ≤ g ∧ g < w.heap.size ∧ ∀ j, j < Ls.length → w.cell? ⟨g, j, none⟩ = some (rvOf rs j) := by
  obtain ⟨g, cap, hv, hb, hlt⟩ := h.2.1.form h0
  have hA : A = some ⟨g, 0, none⟩ := by injection hv
  subst hA
  refine ⟨g, rfl, hb, hlt, fun j hj => ?_⟩
  have := h.2.1.cellAt j (by omega)
  rw [this, rv_get (by rw [h.1]; exact hj)]
theorem OwnPS.sl (h : OwnPS w base A c rs Ls) : SlSS w w.heap.size A Ls := fun h0 => by
  obtain ⟨g, rfl, hb, hlt, hc⟩ := h.outer h0
  refine ⟨g, 0, rfl, hlt, fun j hj => ?_⟩
  obtain ⟨gj, oj, cj, hv, _, _, _, hs⟩ := (h.2.2.1 j hj).sl
  have hcj := hc j hj
  rw [hv] at hcj
  exact ⟨_, cj, by rw [Nat.zero_add]; exact hcj, hs⟩
theorem OwnPS.blk (h : OwnPS w base A c rs Ls) : ∀ j, j < Ls.length → ∀ k, (rvOf rs j).ownBlock = some k → k < w.heap.size := fun j hj k hk => ((h.2.2.1 j hj).lt k hk).2
/-- a row stored in place of another one, whose block it keeps -/
theorem OwnPS.store {g t : Nat} {r : Value} {L : List Int} (h : OwnPS w base (some ⟨g, 0, none⟩) c rs Ls) (ht : t < Ls.length) (hnew : PcR w base r L)
    (hd : ∀ j, j < Ls.length → j ≠ t → ∀ k, r.ownBlock = some k → some k ≠ (rvOf rs j).ownBlock) :
    OwnPS (w.setCell ⟨g, t, none⟩ r) base (some ⟨g, 0, none⟩) c (rs.set t r) (Ls.set t L) ∧ w.grownBy (w.setCell ⟨g, t, none⟩ r) (some g) := by
  obtain ⟨h1, h2⟩ := World.ownsRow.stored h.2.1 t r
  have ers : ∀ j, rvOf (rs.set t r) j = if j = t then (if t < rs.length then r else .slice none 0 0) else rvOf rs j := fun j => by
    unfold rvOf
    simp only [List.getD_eq_getElem?_getD, List.getElem?_set]
    by_cases e : t = j
    · subst e
      by_cases h : t < rs.length <;> simp [h]
    · rw [if_neg e, if_neg (fun x => e x.symm)]
  have eLs : ∀ j, rowOf (Ls.set t L) j = if j = t then L else rowOf Ls j := fun j => by
    unfold rowOf
    simp only [List.getD_eq_getElem?_getD, List.getElem?_set]
    by_cases e : t = j
    · subst e; simp [ht]
    · rw [if_neg e, if_neg (fun x => e x.symm)]
  have htr : t < rs.length := by rw [h.1]; exact ht
  refine ⟨⟨by simp [h.1], by rw [List.length_set]; exact h1, fun j hj => ?_, fun i j hi hj hij k hk => ?_⟩, h2⟩
  · rw [List.length_set] at hj
    rw [ers, eLs]
    by_cases e : j = t
    · rw [if_pos e, if_pos e, if_pos htr]; exact hnew.far h2 (pc_ne hnew h.2.1)
    · rw [if_neg e, if_neg e]; exact (h.2.2.1 j hj).far h2 (pc_ne (h.2.2.1 j hj) h.2.1)
  · rw [List.length_set] at hi hj
    rw [ers] at hk
    rw [ers]
    by_cases e1 : i = t
    · rw [if_pos e1, if_pos htr] at hk
      rw [if_neg (by omega)]
      exact hd j hj (by omega) k hk
    · rw [if_neg e1] at hk
      by_cases e2 : j = t
      · rw [if_pos e2, if_pos htr]
        intro e3
        exact hd i hi e1 k e3.symm (by rw [hk])
      · rw [if_neg e2]; exact h.2.2.2 i j hi hj hij k hk
/-- a row appended, behind a new block: what is owned then -/
theorem OwnPS.app {w2 w3 : World} {A3 : Option Addr} {b c3 : Nat} {r : Value} {L : List Int} {o : Obj} (h : OwnPS w2 base A c rs Ls) (hb : ∀ j, j < Ls.length → ∀ k, (rvOf rs j).ownBlock = some k → k < b)
    (hnew : PcR w2 base r L) (hrb : ∀ k, r.ownBlock = some k → b ≤ k) (ho : w3.ownsRow base 35 1 (.slice A3 (Ls.length + 1) c3) (Ls.length + 1) (rs ++ [r])) (hg : (w2.alloc o).grownBy w3 (Value.slice A Ls.length c).ownBlock) :
    OwnPS w3 base A3 c3 (rs ++ [r]) (Ls ++ [L]) := by
  have far : ∀ {v : Value} {l : List Int}, PcR w2 base v l → PcR w3 base v l := fun hv => (hv.alloc o).far hg (pc_ne hv h.2.1)
  have e : (Ls ++ [L]).length = Ls.length + 1 := by simp
  refine ⟨by simp [h.1], by rw [e]; exact ho, fun j hj => ?_, fun i j hi hj hij k hk => ?_⟩
  · rw [e] at hj
    rw [rvOf_snoc rs r j (by rw [h.1]; omega), rowOf_snoc, h.1]
    by_cases h1 : j < Ls.length
    · rw [if_pos h1, if_pos h1]; exact far (h.2.2.1 j h1)
    · rw [if_neg h1, if_neg h1, if_pos (by omega)]; exact far hnew
  · rw [e] at hi hj
    rw [rvOf_snoc rs r i (by rw [h.1]; omega), h.1] at hk
    rw [rvOf_snoc rs r j (by rw [h.1]; omega), h.1]
    by_cases h1 : i < Ls.length
    · rw [if_pos h1] at hk
      by_cases h2 : j < Ls.length
      · rw [if_pos h2]; exact h.2.2.2 i j h1 h2 hij k hk
      · rw [if_neg h2]
        intro e2
        have := hb i h1 k hk
        have := hrb k e2.symm
        omega
    · rw [if_neg h1] at hk
      rw [if_pos (by omega)]
      intro e2
      have := hb j (by omega) k e2.symm
      have := hrb k hk
      omega
end

/-- part of a row written over -/
def ov (L : List Int) (o : Nat) (x : List Int) : List Int := L.take o ++ x ++ L.drop (o + x.length)
theorem ov_length (L : List Int) (o : Nat) (x : List Int) (h : o + x.length ≤ L.length) : (ov L o x).length = L.length := by unfold ov; simp; omega
theorem ov_at (L : List Int) (o : Nat) (x : List Int) (h : o + x.length ≤ L.length) : ((ov L o x).drop o).take x.length = x := by
  unfold ov
  have e : (L.take o).length = o := by simp; omega
  rw [List.append_assoc, List.drop_left' e]
  simp
theorem ov_set (L : List Int) (o k : Nat) (x : List Int) (y : Int) (h : o + x.length ≤ L.length) (hk : k < x.length) : (ov L o x).set (o + k) y = ov L o (x.set k y) := by
  unfold ov
  have e : (L.take o).length = o := by simp; omega
  rw [List.append_assoc, List.set_append_right _ _ (by rw [e]; omega), e, show o + k - o = k by omega, List.set_append_left _ _ hk, ← List.append_assoc, List.length_set]
theorem ov_same (L : List Int) (o : Nat) (x : List Int) (h : (L.drop o).take x.length = x) (h1 : o + x.length ≤ L.length) : ov L o x = L := by
  unfold ov
  conv => lhs; rw [← h]
  have e : ((L.drop o).take x.length).length = x.length := by simp; omega
  rw [e, List.append_assoc, ← List.drop_drop, List.take_append_drop, List.take_append_drop]
theorem ov_get (L : List Int) (o k : Nat) (x : List Int) (h : o + x.length ≤ L.length) (hk : k < x.length) : (ov L o x).getD (o + k) 0 = x.getD k 0 := by
  unfold ov
  have e : (L.take o).length = o := by simp; omega
  simp only [List.getD_eq_getElem?_getD]
  rw [List.append_assoc, List.getElem?_append_right (by rw [e]; omega), e, show o + k - o = k by omega, List.getElem?_append_left hk]

set_option maxHeartbeats 1600000 in
theorem laws_markIntS_P (v : Value) (base : Nat) (l : List Int) (m : Int) (w : World) (h : PcR w base v l) (hl : l.length ≤ 1000000000) (hm : 0 ≤ m ∧ m ≤ 4000000000) :
    Calls Try.prog 29 #[v, .int .i64 m] w fun r w' => r = .returned (.int .i64 (m + (l.length : Int))) ∧ PcR w' base v (marksI l.length m) ∧ w.grownBy w' v.ownBlock := by
  obtain ⟨_, _⟩ := hm
  obtain ⟨g, o, c, C, L, rfl, hown, hoL, hL, hlc⟩ := h
  have hown0 : w.ownsRow base 3 1 (.slice (some ⟨g, 0, none⟩) L.length C) L.length (ics (ov L o (halfK l 0 m))) := by rw [halfK_zero, ov_same L o l hL hoL]; exact hown
  clear hown hL
  go_enter Try.func29, Try.ntmps29
  go_wp2
  go_loopw [1, 5] (fun q i wr => ∃ k : Nat, k ≤ l.length ∧ i = .int .i64 k ∧ q = .int .i64 (m + (k : Int)) ∧ wr.ownsRow base 3 1 (.slice (some ⟨g, 0, none⟩) L.length C) L.length (ics (ov L o (halfK l k m))) ∧ w.grownBy wr (some g)) (fun _ i _ => l.length - (intOf i).toNat)
  case atStart => exact ⟨0, Nat.zero_le _, rfl, by simp, hown0, World.grownBy.refl w _⟩
  case round =>
    obtain ⟨k, hk, rfl, rfl, ho, hg⟩ := hrel
    have hhl := halfK_length l k m hk
    by_cases hlt : k < l.length
    · have hcell : wr.cell? ⟨g, o + k, none⟩ = some (.int .i64 ((halfK l k m).getD k 0)) := by
        rw [ho.cellAt (o + k) (by omega), ics_get _ _ (by rw [ov_length _ _ _ (by omega)]; omega), ov_get L o k _ (by omega) (by omega)]
      have hfro := ho.frozenAt (o + k)
      have hst := ho.stored (o + k) (.int .i64 (m + (k : Int)))
      rw [ics_set, ov_set L o k _ _ (by omega) (by omega), halfK_succ l k m hlt] at hst
      obtain ⟨hs1, hs2⟩ := hst
      have hs3 := hg.trans hs2
      have k1 : (k : Int) ≤ 1000000000 := by omega
      clear ho hown0 hs2 hg hhl
      go_wp2
      go_roundw
      case rel => exact ⟨k + 1, by omega, by go_num, by simp; omega, hs1, hs3⟩
      case measure => simp [intOf]; omega
    · obtain rfl : k = l.length := by omega
      rw [halfK_all] at ho
      have hfin : PcR wr base (.slice (some ⟨g, o, none⟩) l.length c) (marksI l.length m) := by
        have e : (marksI l.length m).length = l.length := marksI_length _ _
        refine ⟨g, o, c, C, ov L o (marksI l.length m), by rw [e], ?_, ?_, ?_, by rw [e]; exact hlc⟩
        · rw [ov_length _ _ _ (by rw [e]; omega)]; exact ho
        · rw [ov_length _ _ _ (by rw [e]; omega), e]; exact hoL
        · exact ov_at L o _ (by rw [e]; omega)
      clear ho hown0
      go_wp2
      go_ret
      exact ⟨rfl, hfin, hg⟩
set_option maxHeartbeats 1600000 in
theorem laws_markIntPS (A : Option Addr) (c base : Nat) (rs : List Value) (Ls : List (List Int)) (w : World) (h : OwnPS w base A c rs Ls) (hbase : base ≤ w.heap.size) (hl : Ls.length ≤ 1000000) (hp : pre Ls Ls.length ≤ 1000000) :
    Calls Try.prog 24 #[.slice A Ls.length c, .int .i64 1] w fun e w' => e = .returned (.int .i64 (1 + (pre Ls Ls.length : Int))) ∧ OwnPS w' base A c rs (mkd Ls Ls.length) ∧ Below base w w' := by
  obtain ⟨n, hn⟩ : ∃ n, Ls.length = n := ⟨_, rfl⟩
  have Hn := Lib.hid hn
  rw [hn] at hl hp ⊢
  have H := Lib.hid h
  have Hp := Lib.hid hp
  clear hn h hp
  go_enter Try.func24, Try.ntmps24
  go_wp2
  go_loopw [1, 5] (fun q i wr => ∃ k : Nat, k ≤ n ∧ i = .int .i64 k ∧ q = .int .i64 (1 + (pre Ls k : Int)) ∧ OwnPS wr base A c rs (mkd Ls k) ∧ Below base w wr) (fun _ i _ => n - (intOf i).toNat)
  case atStart => exact ⟨0, Nat.zero_le _, rfl, by simp [pre_zero], by rw [mkd_zero]; exact H.out, Below.refl _ _⟩
  case round =>
    obtain ⟨k, hk, rfl, rfl, ho, hb⟩ := hrel
    by_cases hlt : k < n
    · have hkl : k < Ls.length := by rw [Hn.out]; exact hlt
      have hml : (mkd Ls k).length = n := by rw [mkd_length, Hn.out]
      obtain ⟨g, rfl, hg1, hg2, hc⟩ := ho.outer (by omega)
      have g0 := hc k (by omega)
      have hrow := ho.2.2.1 k (by omega)
      have hne := pc_ne hrow ho.2.1
      have hrk : rowOf (mkd Ls k) k = rowOf Ls k := by rw [mkd_row Ls k k hkl, if_neg (by omega)]
      rw [hrk] at hrow
      obtain ⟨Aj, cj, hv⟩ := hrow.form
      have i0 : (0 : Int) ≤ (k : Int) := by omega
      have i1 : (k : Int) < (n : Int) := by omega
      have hps := pre_succ Ls k hkl
      have hpl := pre_le Ls (k + 1) (n - (k + 1)) (by rw [Hn.out]; omega)
      rw [show k + 1 + (n - (k + 1)) = n by omega] at hpl
      have hp1 := Hp.out
      have hcall := laws_markIntS_P (rvOf rs k) base (rowOf Ls k) (1 + (pre Ls k : Int)) wr hrow (by omega) (by omega)
      have hend : ∀ w', PcR w' base (rvOf rs k) (marksI (rowOf Ls k).length (1 + (pre Ls k : Int))) → wr.grownBy w' (rvOf rs k).ownBlock → OwnPS w' base (some ⟨g, 0, none⟩) c rs (mkd Ls (k + 1)) ∧ Below base w w' := by
        intro w' hnew hgr
        have hlen : (mkd Ls (k + 1)).length = (mkd Ls k).length := by rw [mkd_length, mkd_length]
        refine ⟨⟨by rw [ho.1, hlen], ?_, fun j hj => ?_, fun i j hi hj => ho.2.2.2 i j (by omega) (by omega)⟩, ?_⟩
        · rw [hlen]
          exact own_far ho.2.1 hgr (fun z hz e => hne z e.symm hz.symm)
        · have hj2 : j < Ls.length := by rw [hlen, mkd_length] at hj; exact hj
          by_cases hjk : j = k
          · subst hjk
            rw [mkd_row Ls (j + 1) j hj2, if_pos (by omega)]
            exact hnew
          · have e : rowOf (mkd Ls (k + 1)) j = rowOf (mkd Ls k) j := by
              rw [mkd_row Ls (k + 1) j hj2, mkd_row Ls k j hj2]
              by_cases h1 : j < k
              · rw [if_pos h1, if_pos (by omega)]
              · rw [if_neg h1, if_neg (by omega)]
            rw [e]
            exact (ho.2.2.1 j (by omega)).far hgr (fun z hz => ho.2.2.2 j k (by omega) (by omega) hjk z hz)
        · exact hb.grown hgr (Nat.le_trans hbase hb.size) (fun z hz => (hrow.lt z hz).1)
      have he : 1 + (pre Ls k : Int) + ((rowOf Ls k).length : Int) = 1 + (pre Ls (k + 1) : Int) := by rw [hps]; omega
      have He := Lib.hid he
      rw [hv] at hcall hend g0
      have Hcall := Lib.hid hcall
      have Hend := Lib.hid hend
      clear hc hps he hpl hp1 hcall hend hv hrow hne hrk hml ho
      generalize (rowOf Ls k).length = m at *
      generalize hpp : (pre Ls k : Int) = p at *
      clear hpp
      go_wp2_with fail
      refine Hcall.out.mono ?_
      rintro e w1 ⟨rfl, hnew, hgr⟩
      have HE := Lib.hid (Hend.out _ hnew hgr)
      clear hnew hgr hb
      go_wp2
      go_roundw
      case rel => exact ⟨k + 1, by omega, by go_num, by rw [He.out], HE.out.1, HE.out.2⟩
      case measure => simp [intOf]; omega
    · obtain rfl : k = n := by omega
      go_wp2
      go_ret
      exact ⟨rfl, ho, hb⟩

/-- what a function gives back that makes a list of such rows -/
def RetPS (w : World) (Ls : List (List Int)) (ok : Bool) (e : Ending) (w' : World) : Prop :=
  ∃ A c rs, e = .returned (.tuple #[.slice A Ls.length c, .bool ok]) ∧ OwnPS w' w.heap.size A c rs Ls ∧ Below w.heap.size w w'
end Go.Proofs.Ytlnnnjnboknoeaa
