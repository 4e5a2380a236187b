/- Lists of lists in the making: a row appended, a row stored. -/
import Derived.Test.YtbpaaoeefcebeabLawDD
import Derived.Test.YtbpaaoeefcebeabApp
namespace Go.Proofs.Ytbpaaoeefcebeab
set_option linter.unusedVariables false
open Go.RowKit

theorem infoSlD : (Try.prog.info? 26).map (fun i => (i.zero, i.size, i.bytes)) = some (some (.slice none 0 0), 1, 24) := by kernel_rfl

section
variable {w w' : World} {base : Nat} {A : Option Addr} {c : Nat} {rs : List Value} {Ls : List (List (Int × Int))}
theorem rowD_snoc (Ls : List (List (Int × Int))) (L : List (Int × Int)) (j : Nat) : rowD (Ls ++ [L]) j = if j < Ls.length then rowD Ls j else if j = Ls.length then L else [] := by
  unfold rowD
  simp only [List.getD_eq_getElem?_getD]
  by_cases h : j < Ls.length
  · rw [if_pos h, List.getElem?_append_left h]
  · rw [if_neg h, List.getElem?_append_right (by omega)]
    by_cases e : j = Ls.length
    · subst e; simp
    · rw [if_neg e, List.getElem?_eq_none (by simp; omega)]; rfl
theorem rvD_snoc (rs : List Value) (r : Value) (j : Nat) (h : j ≤ rs.length) : rvD (rs ++ [r]) j = if j < rs.length then rvD rs j else r := by
  unfold rvD
  simp only [List.getD_eq_getElem?_getD]
  by_cases hj : j < rs.length
  · rw [if_pos hj, List.getElem?_append_left hj]
  · obtain rfl : j = rs.length := by omega
    rw [if_neg hj, List.getElem?_append_right (by omega)]
    simp
/-- a row more -/
theorem OwnDD.snoc {n : Nat} {r : Value} {L : List (Int × Int)} {A3 : Option Addr} {c3 : Nat} (b : Nat) (hn : Ls.length = n) (hl : rs.length = n) (ho : w.ownsRow base 26 1 (.slice A3 (n + 1) c3) (n + 1) (rs ++ [r]))
    (hr : ∀ j, j < n → w.ownsRow base 65 2 (rvD rs j) (rowD Ls j).length (dcs (rowD Ls j)) ∧ ∀ k, (rvD rs j).ownBlock = some k → k < b) (hd : ∀ i j, i < n → j < n → i ≠ j → ∀ k, (rvD rs i).ownBlock = some k → some k ≠ (rvD rs j).ownBlock)
    (hnew : w.ownsRow base 65 2 r L.length (dcs L)) (hb : ∀ k, r.ownBlock = some k → b ≤ k) : OwnDD w base A3 c3 (rs ++ [r]) (Ls ++ [L]) := by
  subst hn
  have e : (Ls ++ [L]).length = Ls.length + 1 := by simp
  refine ⟨by simp [hl], by rw [e]; exact ho, fun j hj => ?_, fun i j hi hj hij k hk => ?_⟩
  · rw [rvD_snoc rs r j (by rw [hl]; rw [e] at hj; omega), rowD_snoc, hl]
    by_cases h : j < Ls.length
    · rw [if_pos h, if_pos h]; exact (hr j h).1
    · rw [if_neg h, if_neg h, if_pos (by rw [e] at hj; omega)]; exact hnew
  · rw [e] at hi hj
    rw [rvD_snoc rs r i (by rw [hl]; omega), hl] at hk
    rw [rvD_snoc rs r j (by rw [hl]; omega), hl]
    by_cases h1 : i < Ls.length
    · rw [if_pos h1] at hk
      by_cases h2 : j < Ls.length
      · rw [if_pos h2]; exact hd i j h1 h2 hij k hk
      · rw [if_neg h2]
        intro e2
        have := (hr i h1).2 k hk
        have := hb k e2.symm
        omega
    · rw [if_neg h1] at hk
      rw [if_pos (by omega)]
      intro e2
      have := (hr j (by omega)).2 k e2.symm
      have := hb k hk
      omega
/-- a row stored -/
theorem OwnDD.store {g t : Nat} {r : Value} {L : List (Int × Int)} (h : OwnDD w base (some ⟨g, 0, none⟩) c rs Ls) (ht : t < Ls.length) (hnew : w.ownsRow base 65 2 r L.length (dcs L))
    (hd : ∀ j, j < Ls.length → j ≠ t → ∀ k, r.ownBlock = some k → some k ≠ (rvD rs j).ownBlock) :
    OwnDD (w.setCell ⟨g, t, none⟩ r) base (some ⟨g, 0, none⟩) c (rs.set t r) (Ls.set t L) ∧ w.grownBy (w.setCell ⟨g, t, none⟩ r) (some g) := by
  obtain ⟨h1, h2⟩ := World.ownsRow.stored h.2.1 t r
  have hne : ∀ {n : Nat} {v : Value} {xs : List Value}, w.ownsRow base 65 2 v n xs → ∀ k, v.ownBlock = some k → some k ≠ some g := fun ho k hk e => own_ne ho h.2.1 (by decide) k hk e
  have ers : ∀ j, rvD (rs.set t r) j = if j = t then (if t < rs.length then r else .slice none 0 0) else rvD rs j := fun j => by
    unfold rvD
    simp only [List.getD_eq_getElem?_getD, List.getElem?_set]
    by_cases e : t = j
    · subst e
      by_cases h : t < rs.length <;> simp [h]
    · rw [if_neg e, if_neg (fun x => e x.symm)]
  have eLs : ∀ j, rowD (Ls.set t L) j = if j = t then L else rowD Ls j := fun j => by
    unfold rowD
    simp only [List.getD_eq_getElem?_getD, List.getElem?_set]
    by_cases e : t = j
    · subst e; simp [ht]
    · rw [if_neg e, if_neg (fun x => e x.symm)]
  have htr : t < rs.length := by rw [h.1]; exact ht
  refine ⟨⟨by simp [h.1], by rw [List.length_set]; exact h1, fun j hj => ?_, fun i j hi hj hij k hk => ?_⟩, h2⟩
  · rw [List.length_set] at hj
    rw [ers, eLs]
    by_cases e : j = t
    · rw [if_pos e, if_pos e, if_pos htr]; exact own_far hnew h2 (hne hnew)
    · rw [if_neg e, if_neg e]; exact own_far (h.2.2.1 j hj) h2 (hne (h.2.2.1 j hj))
  · rw [List.length_set] at hi hj
    rw [ers] at hk
    rw [ers]
    by_cases e1 : i = t
    · rw [if_pos e1, if_pos htr] at hk
      rw [if_neg (by omega)]
      exact hd j hj (by omega) k hk
    · rw [if_neg e1] at hk
      by_cases e2 : j = t
      · rw [if_pos e2, if_pos htr]
        intro e3
        exact hd i hi e1 k e3.symm (by rw [hk])
      · rw [if_neg e2]; exact h.2.2.2 i j hi hj hij k hk
end

/-- a row appended, behind a new block: what is owned then -/
theorem OwnDD.app {w2 w3 : World} {base b : Nat} {A A3 : Option Addr} {c c3 : Nat} {rs : List Value} {Ls : List (List (Int × Int))} {r : Value} {L : List (Int × Int)} {o : Obj} (h : OwnDD w2 base A c rs Ls) (hb : ∀ j, j < Ls.length → ∀ k, (rvD rs j).ownBlock = some k → k < b)
    (hnew : w2.ownsRow base 65 2 r L.length (dcs L)) (hrb : ∀ k, r.ownBlock = some k → b ≤ k) (ho : w3.ownsRow base 26 1 (.slice A3 (Ls.length + 1) c3) (Ls.length + 1) (rs ++ [r])) (hg : (w2.alloc o).grownBy w3 (Value.slice A Ls.length c).ownBlock) :
    OwnDD w3 base A3 c3 (rs ++ [r]) (Ls ++ [L]) := by
  have far : ∀ {n : Nat} {v : Value} {xs : List Value}, w2.ownsRow base 65 2 v n xs → w3.ownsRow base 65 2 v n xs := fun hv =>
    own_far (hv.alloc o) hg (fun k hk e => own_ne hv h.2.1 (by decide) k hk e)
  exact OwnDD.snoc b rfl h.1 ho (fun j hj => ⟨far (h.2.2.1 j hj), hb j hj⟩) h.2.2.2 (far hnew) hrb
theorem OwnDD.blk {w : World} {base : Nat} {A : Option Addr} {c : Nat} {rs : List Value} {Ls : List (List (Int × Int))} (h : OwnDD w base A c rs Ls) : ∀ j, j < Ls.length → ∀ k, (rvD rs j).ownBlock = some k → k < w.heap.size := fun j hj k hk => ((h.2.2.1 j hj).lt k hk).2
theorem OwnDD.alloc {w : World} {base : Nat} {A : Option Addr} {c : Nat} {rs : List Value} {Ls : List (List (Int × Int))} (h : OwnDD w base A c rs Ls) (o : Obj) : OwnDD (w.alloc o) base A c rs Ls := ⟨h.1, h.2.1.alloc o, fun j hj => (h.2.2.1 j hj).alloc o, h.2.2.2⟩
theorem OwnDD.far2 {w w' : World} {base : Nat} {A : Option Addr} {c : Nat} {rs : List Value} {Ls : List (List (Int × Int))} {o : Obj} (h : OwnDD w base A c rs Ls) (hg : (w.alloc o).grownBy w' (some w.heap.size)) : OwnDD w' base A c rs Ls :=
  ⟨h.1, own_far (h.2.1.alloc o) hg (ne_old h.2.1), fun j hj => own_far ((h.2.2.1 j hj).alloc o) hg (ne_old (h.2.2.1 j hj)), h.2.2.2⟩
theorem preD_bd (Ls : List (List (Int × Int))) (M : Nat) (h : ∀ j, j < Ls.length → (rowD Ls j).length ≤ M) : ∀ j, j ≤ Ls.length → preD Ls j ≤ j * M := by
  intro j
  induction j with
  | zero => intro _; rw [preD_zero]; omega
  | succ j ih =>
    intro hj
    rw [preD_succ Ls j (by omega), Nat.succ_mul]
    have := ih (by omega)
    have := h j (by omega)
    omega
theorem zerosDD (m : Nat) : (madeCells (Value.slice none 0 0).cells (m * 1)).toList = List.replicate m (Value.slice none 0 0) := by
  rw [Nat.mul_one]
  show (madeCells #[Value.slice none 0 0] m).toList = _
  rw [toList_madeCells_one]
/-- rows in the making: none told yet -/
theorem OwnDD.zeros {w : World} {base g m : Nat} (h : w.ownsRow base 26 1 (.slice (some ⟨g, 0, none⟩) m m) m (List.replicate m (.slice none 0 0))) : OwnDD w base (some ⟨g, 0, none⟩) m (List.replicate m (.slice none 0 0)) (List.replicate m []) := by
  have e1 : ∀ j, rvD (List.replicate m (Value.slice none 0 0)) j = .slice none 0 0 := fun j => by
    unfold rvD
    simp only [List.getD_eq_getElem?_getD, List.getElem?_replicate]
    split <;> rfl
  have e2 : ∀ j, rowD (List.replicate m ([] : List (Int × Int))) j = [] := fun j => by
    unfold rowD
    simp only [List.getD_eq_getElem?_getD, List.getElem?_replicate]
    split <;> rfl
  refine ⟨by simp, by simpa using h, fun j hj => ?_, fun i j hi hj hij k hk => ?_⟩
  · rw [e1, e2]; exact World.ownsRow_nil _ _ _ _
  · rw [e1] at hk; simp [Value.ownBlock] at hk

section
variable {ops : Array Oper} {rest : List Oper} {o : Oper} {a : Act} {Q : Exit → Act → World → Prop}
/-- append of one row's value to the outer row -/
theorem append1DD (w : World) (hgd : o.guard = none) (s x : Operand) (ho : o.op = .call { callee := .builtin .append, args := #[s, x], argTypes := #[37, 37] })
    (base : Nat) (v : Value) (n : Nat) (rs : List Value) (hs : a.eval s = v) (hown : w.ownsRow base 26 1 v n rs) (g : Nat) (r : Value) (hr : r.oneCell' = true) (hx : a.eval x = .slice (some ⟨g, 0, none⟩) 1 1)
    (hc : w.cell? ⟨g, 0, none⟩ = some r) (hlen : n ≤ 1000000) (hbase : base ≤ w.heap.size)
    (h : ∀ A' c' w', w'.ownsRow base 26 1 (.slice A' (n + 1) c') (n + 1) (rs ++ [r]) → w.grownBy w' v.ownBlock → wpList Try.prog ops Q rest (a.put o.dst (.slice A' (n + 1) c')) w') :
    wpList Try.prog ops Q (o :: rest) a w := by
  obtain ⟨i0, hi, hz0, hz1, hz2⟩ := info_parts infoSlD
  refine wpList_append_own w hgd s x 37 ho base 26 i0 (.slice none 0 0) 1 24 Try.underlying37 hi hz0 hz1 hz2 rfl (by decide) v n rs hs hown ⟨g, 0, none⟩ 1 1 [r] hx rfl ?_ ?_ ?_ ?_ hbase ?_
  · intro j u hu
    match j, hu with
    | 0, hu =>
      rw [Addr.add_zero', hc]
      simpa using hu
  · intro u hu
    simp at hu
    subst hu
    exact hr
  · unfold maxLen; omega
  · omega
  · intro v' w' hown' hg _
    obtain ⟨A', c', rfl⟩ := own_form hown'
    exact h A' c' w' hown' hg
end
/-- a list of lists alone, in new memory -/
def GivDD (w : World) (Ls : List (List (Int × Int))) (m : Nat) (e : Ending) (w' : World) : Prop :=
  ∃ A c rs, e = .returned (.slice A m c) ∧ OwnDD w' w.heap.size A c rs Ls ∧ Below w.heap.size w w'
end Go.Proofs.Ytbpaaoeefcebeab
