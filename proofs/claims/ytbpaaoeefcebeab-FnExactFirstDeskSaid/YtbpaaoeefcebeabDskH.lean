/- Laws of desks (a struct of a list of numbers and a number): the argument opened; the laws' own helpers: copied, compared, marked, held, sized. -/
import Derived.Test.YtbpaaoeefcebeabLawM
import Derived.Test.YtbpaaoeefcebeabOpen
import Derived.Test.YtbpaaoeefcebeabKept
import Derived.Laws.Rows
import Derived.OneCell
namespace Go.Proofs.Ytbpaaoeefcebeab
set_option linter.unusedVariables false
open Go.RowKit

open Go.ChangeShapes Go.WideShapes Go.ChangeAt Go.Joins Go.Deep in
theorem Opens.agdesk_ {H : Type} {enc : TypeId × Value → H} {P : Program} {w : World} {base : Nat} {spare : Nat → Bool} {held : Bool} {r : Reach} {b0 : Nat} {t s e : TypeId} {f0 f1 : Field} {v : Value} {d : DataW H} {p : List MemPlace} (ht : P.underlying t = some (.struct #[f0, f1])) (hone : oneCellFields P #[f0, f1] = true) (hC : P.cellsOf t = 2)
    (hs : P.underlying s = some (.slice e)) (he : P.underlying e = some (.int .i64)) (hCe : P.cellsOf e = 1)
    (hv : Value.okWide P w r b0 t v) (h : DataW.Trod enc P w base spare held t v d p) (e0 : f0.type = s := by rfl) (e1 : f1.type = e := by rfl) :
    ∃ (A : Option Addr) (c : Nat) (z : List Int) (m : Int), v = .agg #[.slice A z.length c, .int .i64 m] ∧ SlI w w.heap.size A z ∧ z.length ≤ c ∧ c ≤ maxLen ∧ ∀ x ∈ z, (Lit.int .i64 x).wf = true := by
  obtain ⟨v0, v1, y0, y1, m0, rfl, -, -, hf, hy1⟩ := open_agg2 ht hone hC hv h
  rw [e0] at hf
  rw [e1] at hy1
  obtain ⟨m, g1, -, -⟩ := DataW.trod_int he hy1
  simp at g1
  subst g1
  rcases open_ints hs he hCe hf with ⟨hcs, _⟩ | ⟨a, n, c, zs, hcs, _, hl, hm, hz, _, hcell, hwz⟩
  · simp at hcs
    subst hcs
    exact ⟨none, 0, [], m, rfl, SlI.nil_, Nat.le_refl _, by simp [maxLen], by simp⟩
  · simp at hcs
    subst hcs
    have hle : n ≤ zs.length := by rw [hz]; split <;> omega
    have hlen : (zs.take n).length = n := by simp; omega
    refine ⟨some a, c, zs.take n, m, by rw [hlen], fun h0 => ?_, by omega, hm, fun x hx => hwz x (List.mem_of_mem_take hx)⟩
    have hc0 := hcell 0 (by omega)
    obtain ⟨b, off, spot⟩ := a
    have hsp : spot = none := by simpa [Addr.add] using World.cell?_spot hc0
    subst hsp
    refine ⟨b, off, rfl, ?_, fun j hj => ?_⟩
    · have := World.block_lt_of_cell? w _ hc0
      simpa [Addr.add] using this
    · have hj2 : j < n := by omega
      have := hcell j (by omega)
      rw [Addr.add_lit] at this
      rw [this]
      simp [hj2]

theorem below_box {B : Nat} {w0 w : World} (h : Below B w0 w) (hB : B ≤ w0.heap.size) (o : Obj) : Below B w0 (w.alloc o) := h.alloc (Nat.le_trans hB h.size) _
/-- a box: a block of two cells, a value and a number -/
def Bd (w : World) (b : Nat) (v : Value) (m : Int) (t : TypeId) : Prop := w.heap[b]? = some (.cells #[v, .int .i64 m] t)
section
variable {w w' : World} {b : Nat} {v : Value} {m : Int} {t : TypeId}
theorem Bd.new (w : World) (v : Value) (m : Int) (t : TypeId) : Bd (w.alloc (.cells #[v, .int .i64 m] t)) w.heap.size v m t := by
  exact heap_alloc_new w _
theorem Bd.lt (h : Bd w b v m t) : b < w.heap.size := (Array.getElem?_eq_some_iff.1 h).1
theorem Bd.cell (h : Bd w b v m t) : w.cell? ⟨b, 0, none⟩ = some v ∧ w.cell? ⟨b, 1, none⟩ = some (.int .i64 m) := by
  have h' : w.heap[b]? = some (.cells #[v, .int .i64 m] t) := h
  simp [World.cell?, h']
theorem Bd.frozen (h : Bd w b v m t) : w.frozen? ⟨b, 0, none⟩ = false ∧ w.frozen? ⟨b, 1, none⟩ = false := by
  have h' : w.heap[b]? = some (.cells #[v, .int .i64 m] t) := h
  simp [World.frozen?, h']
theorem Bd.kept (h : Bd w b v m t) (hb : Below w.heap.size w w') : Bd w' b v m t := (hb.block b h.lt).trans h
theorem Bd.alloc (h : Bd w b v m t) (o : Obj) : Bd (w.alloc o) b v m t := h.kept ((Below.refl _ _).alloc (Nat.le_refl _) _)
theorem Bd.far {row : Option Nat} (h : Bd w b v m t) (hg : w.grownBy w' row) (hne : some b ≠ row) : Bd w' b v m t := (hg.block b h.lt hne).trans h
theorem bd_ne {base e size n : Nat} {u : Value} {xs : List Value} (h : Bd w b v m t) (r : w.ownsRow base e size u n xs) (hte : e ≠ t) : some b ≠ u.ownBlock := by
  intro he
  rcases r.2 with ⟨rfl, _⟩ | ⟨g, cap, cur, rfl, _, hh, _⟩
  · simp [Value.ownBlock] at he
  · simp [Value.ownBlock] at he
    subst he
    have h' : w.heap[b]? = some (.cells #[v, .int .i64 m] t) := h
    rw [h'] at hh
    injection hh with hh
    injection hh with _ ht
    exact hte ht.symm
end

/-- a desk as a result -/
def GivDk (w : World) (L : List Int) (m : Int) (e : Ending) (w' : World) : Prop :=
  ∃ A c, e = .returned (.agg #[.slice A L.length c, .int .i64 m]) ∧ w'.ownsRow w.heap.size 3 1 (.slice A L.length c) L.length (ics L) ∧ Below w.heap.size w w'

set_option maxHeartbeats 800000 in
theorem laws_toDesk (A : Option Addr) (c B : Nat) (l : List Int) (m : Int) (w : World) (h : SlI w B A l) (hB : B ≤ w.heap.size) (hl : l.length ≤ 1048576) :
    Calls Try.prog 53 #[.agg #[.slice A l.length c, .int .i64 m]] w fun e w' => ∃ g, e = .returned (.agg #[.slice (some ⟨g, 0, none⟩) l.length l.length, .int .i64 m]) ∧
      w'.ownsRow w.heap.size 3 1 (.slice (some ⟨g, 0, none⟩) l.length l.length) l.length (ics l) ∧ Below w.heap.size w w' := by
  obtain ⟨w3, hw3⟩ : ∃ w3, w3 = ((w.alloc (.cells #[.slice A l.length c, .int .i64 m] 57)).alloc (.cells #[.slice none 0 0, .int .i64 0] 52)).alloc (.cells #[.slice none 0 0, .int .i64 0] 52) := ⟨_, rfl⟩
  have hb3 : Below w.heap.size w w3 := by
    rw [hw3]
    exact below_box (below_box (below_box (Below.refl _ _) (Nat.le_refl _) _) (Nat.le_refl _) _) (Nat.le_refl _) _
  have q0 : Bd w3 w.heap.size (.slice A l.length c) m 57 := by
    rw [hw3]
    exact ((Bd.new w (.slice A l.length c) m 57).alloc _).alloc _
  have q1 : Bd w3 (w.heap.size + 1) (.slice none 0 0) 0 52 := by
    rw [hw3]
    have := Bd.new (w.alloc (.cells #[.slice A l.length c, .int .i64 m] 57)) (.slice none 0 0) 0 52
    simpa using this.alloc (.cells #[.slice none 0 0, .int .i64 0] 52)
  have q2 : Bd w3 (w.heap.size + 2) (.slice none 0 0) 0 52 := by
    rw [hw3]
    simpa using Bd.new ((w.alloc (.cells #[.slice A l.length c, .int .i64 m] 57)).alloc (.cells #[.slice none 0 0, .int .i64 0] 52)) (.slice none 0 0) 0 52
  have hs := h.below (hb3.mono hB)
  have Hb3 := Lib.hid hb3
  have Hs := Lib.hid hs
  have Q0 := Lib.hid q0
  have Q1 := Lib.hid q1
  have Q2 := Lib.hid q2
  have Hw3 := Lib.hid hw3
  clear hb3 hs q0 q1 q2 hw3 h
  go_enter Try.func53, Try.ntmps53
  go_wp2_with fail
  rw [← Hw3.out]
  clear Hw3
  refine (laws_toIntS A c B l _ Hs.out (Nat.le_trans hB Hb3.out.size) hl).mono ?_
  rintro e w4 ⟨rfl, ho, hb4⟩
  have l0 := Q0.out.lt
  have l1 := Q1.out.lt
  have l2 := Q2.out.lt
  have k0 := Q0.out.kept hb4
  have k1 := Q1.out.kept hb4
  have k2 := Q2.out.kept hb4
  obtain ⟨c0, d0⟩ := k0.cell
  obtain ⟨c1, d1⟩ := k1.cell
  obtain ⟨c2, d2⟩ := k2.cell
  obtain ⟨f1, e1⟩ := k1.frozen
  obtain ⟨f2, e2⟩ := k2.frozen
  have b4 := below_kept Hb3.out (Nat.le_refl _) hb4
  generalize w3.heap.size = N at *
  have o5 := ownsRow_setCell_below ho (a := ⟨w.heap.size + 2, 0, none⟩) l2 (.slice (some ⟨N, 0, none⟩) l.length l.length)
  have o6 := ownsRow_setCell_below o5 (a := ⟨w.heap.size + 2, 1, none⟩) l2 (.int .i64 m)
  have o7 := ownsRow_setCell_below o6 (a := ⟨w.heap.size + 1, 0, none⟩) l1 (.slice (some ⟨N, 0, none⟩) l.length l.length)
  have o8 := ownsRow_setCell_below o7 (a := ⟨w.heap.size + 1, 1, none⟩) l1 (.int .i64 m)
  have b5 := b4.setCell (p := ⟨w.heap.size + 2, 0, none⟩) (Nat.le_add_right _ _) (.slice (some ⟨N, 0, none⟩) l.length l.length)
  have b6 := b5.setCell (p := ⟨w.heap.size + 2, 1, none⟩) (Nat.le_add_right _ _) (.int .i64 m)
  have b7 := b6.setCell (p := ⟨w.heap.size + 1, 0, none⟩) (Nat.le_add_right _ _) (.slice (some ⟨N, 0, none⟩) l.length l.length)
  have b8 := b7.setCell (p := ⟨w.heap.size + 1, 1, none⟩) (Nat.le_add_right _ _) (.int .i64 m)
  have O8 := Lib.hid (o8.mono (base' := w.heap.size) (by omega))
  have B8 := Lib.hid b8
  clear o5 o6 o7 o8 b5 b6 b7 b8 b4 ho hb4 k0 k1 k2 Q0 Q1 Q2 Hs Hb3
  go_wp2
  exact bodyPost_ret (v := .agg #[.slice (some ⟨N, 0, none⟩) l.length l.length, .int .i64 m]) (by simp [results, Try.results53, go_sem, c0, d0, c1, d1, c2, d2, f1, f2, e1, e2]) rfl ⟨N, rfl, O8.out, B8.out⟩

theorem laws_szDesk_le (A : Option Addr) (n c : Nat) (m : Int) (w : World) (hn : n ≤ 1048576) :
    Calls Try.prog 51 #[.agg #[.slice A n c, .int .i64 m], .int .i64 1048576] w fun e w' => e = .returned (.int .i64 (1048576 - (n : Int))) ∧ Below w.heap.size w w' := by
  have hb := Lib.hid (below_box (Below.refl w.heap.size w) (Nat.le_refl _) (.cells #[.slice A n c, .int .i64 m] 57))
  have hc := laws_szIntS A n c (w.alloc (.cells #[.slice A n c, .int .i64 m] 57)) (by unfold maxLen; omega)
  rw [if_pos hn] at hc
  have Hc := Lib.hid hc
  clear hc
  have h1 : ¬ (1048576 : Int) - (n : Int) < 0 := by omega
  go_enter Try.func51, Try.ntmps51
  go_wp2_with fail
  refine Hc.out.mono ?_
  rintro e w1 ⟨rfl, rfl⟩
  clear Hc
  go_wp2
  go_ret
  exact ⟨rfl, hb.out⟩
theorem laws_szDesk_gt (A : Option Addr) (n c : Nat) (m : Int) (w : World) (hn : 1048576 < n) (hm : n ≤ maxLen) :
    Calls Try.prog 51 #[.agg #[.slice A n c, .int .i64 m], .int .i64 1048576] w fun e w' => e = .returned (.int .i64 (-1)) ∧ Below w.heap.size w w' := by
  have hb := Lib.hid (below_box (Below.refl w.heap.size w) (Nat.le_refl _) (.cells #[.slice A n c, .int .i64 m] 57))
  have hc := laws_szIntS A n c (w.alloc (.cells #[.slice A n c, .int .i64 m] 57)) hm
  rw [if_neg (by omega)] at hc
  have Hc := Lib.hid hc
  clear hc hn hm
  go_enter Try.func51, Try.ntmps51
  go_wp2_with fail
  refine Hc.out.mono ?_
  rintro e w1 ⟨rfl, rfl⟩
  clear Hc
  go_wp2
  go_ret
  exact ⟨rfl, hb.out⟩

set_option maxHeartbeats 800000 in
theorem laws_eqDesk (A A' : Option Addr) (c c' B B' : Nat) (l : List Int) (m : Int) (w : World) (h : SlI w B A l) (hB : B ≤ w.heap.size) (h' : SlI w B' A' l) (hB' : B' ≤ w.heap.size) (hl : l.length ≤ 1000000000) :
    Calls Try.prog 48 #[.agg #[.slice A l.length c, .int .i64 m], .agg #[.slice A' l.length c', .int .i64 m]] w fun e w' => e = .returned (.bool true) ∧ Below w.heap.size w w' := by
  obtain ⟨w2, hw2⟩ : ∃ w2, w2 = (w.alloc (.cells #[.slice A l.length c, .int .i64 m] 52)).alloc (.cells #[.slice A' l.length c', .int .i64 m] 52) := ⟨_, rfl⟩
  have hb : Below w.heap.size w w2 := by
    rw [hw2]
    exact below_box (below_box (Below.refl w.heap.size w) (Nat.le_refl _) _) (Nat.le_refl _) _
  have q0 : Bd w2 w.heap.size (.slice A l.length c) m 52 := by
    rw [hw2]
    exact (Bd.new w (.slice A l.length c) m 52).alloc _
  have q1 : Bd w2 (w.heap.size + 1) (.slice A' l.length c') m 52 := by
    rw [hw2]
    simpa using Bd.new (w.alloc (.cells #[.slice A l.length c, .int .i64 m] 52)) (.slice A' l.length c') m 52
  have Hs := Lib.hid (h.below (hb.mono hB))
  have Hs' := Lib.hid (h'.below (hb.mono hB'))
  have Hb := Lib.hid hb
  have Q0 := Lib.hid q0
  have Q1 := Lib.hid q1
  have Hw2 := Lib.hid hw2
  clear hb h h' q0 q1 hw2
  go_enter Try.func48, Try.ntmps48
  go_wp2_with fail
  rw [← Hw2.out]
  clear Hw2
  refine (laws_eqIntS A A' c c' B B' l _ Hs.out Hs'.out hl).mono ?_
  rintro e w3 ⟨rfl, hb1⟩
  have HE := Lib.hid (below_kept Hb.out (Nat.le_refl _) hb1)
  obtain ⟨c0, d0⟩ := (Q0.out.kept hb1).cell
  obtain ⟨c1, d1⟩ := (Q1.out.kept hb1).cell
  clear hb1 Hs Hs' Hb Q0 Q1
  go_wp2
  go_ret
  exact ⟨rfl, HE.out⟩

theorem laws_heldDesk (A : Option Addr) (c B n : Nat) (m : Int) (w : World) (h : SlI w B A (marksI n 1)) (hB : B ≤ w.heap.size) (hl : n ≤ 1000000000) :
    Calls Try.prog 50 #[.agg #[.slice A n c, .int .i64 m], .int .i64 1] w fun e w' => e = .returned (.int .i64 ((n : Int) + 1)) ∧ Below w.heap.size w w' := by
  have hb := below_box (Below.refl w.heap.size w) (Nat.le_refl _) (.cells #[.slice A n c, .int .i64 m] 52)
  have Hs := Lib.hid (h.below (hb.mono hB))
  have Hb := Lib.hid hb
  have h1 : ¬ ((n : Int) + 1 < 0) := by omega
  clear hb h
  go_enter Try.func50, Try.ntmps50
  go_wp2_with fail
  refine (laws_heldIntS A c B n _ Hs.out hl).mono ?_
  rintro e w1 ⟨rfl, rfl⟩
  clear Hs
  go_wp2
  go_ret
  exact ⟨rfl, Hb.out⟩

theorem laws_markDesk_any (v : Value) (base e : Nat) (l : List Int) (m : Int) (w : World) (h : w.ownsRow base e 1 v l.length (ics l)) (hl : l.length ≤ 1000000000) :
    Calls Try.prog 49 #[.agg #[v, .int .i64 m], .int .i64 1] w fun r w' => r = .returned (.int .i64 ((l.length : Int) + 1)) ∧
      w'.ownsRow base e 1 v l.length (ics (marksI l.length 1)) ∧ ∃ wm, Below w.heap.size w wm ∧ wm.grownBy w' v.ownBlock := by
  obtain ⟨A, c, rfl⟩ := own_form h
  have hb := below_box (Below.refl w.heap.size w) (Nat.le_refl _) (.cells #[.slice A l.length c, .int .i64 m] 52)
  have Hs := Lib.hid (own_kept h hb)
  have Hb := Lib.hid hb
  clear hb h
  go_enter Try.func49, Try.ntmps49
  go_wp2_with fail
  refine (laws_markIntS_any _ base e l _ Hs.out hl).mono ?_
  rintro r w1 ⟨rfl, ho, hg⟩
  have Ho := Lib.hid ho
  have Hg := Lib.hid hg
  clear ho hg Hs
  go_wp2
  go_ret
  exact ⟨rfl, Ho.out, _, Hb.out, Hg.out⟩

end Go.Proofs.Ytbpaaoeefcebeab
