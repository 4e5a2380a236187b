/- Laws of puzzles (a struct of one list of numbers): the argument opened; the laws' own helpers: copied, compared, marked, held, sized; how results of that kind are told. -/
import Derived.Test.YtnoddecligmjbaaLawM
import Derived.Test.YtnoddecligmjbaaOpen
import Derived.Laws.Rows
import Derived.OneCell
namespace Go.Proofs.Ytnoddecligmjbaa
set_option linter.unusedVariables false
open Go.RowKit

open Go.ChangeShapes Go.WideShapes Go.ChangeAt Go.Joins Go.Deep in
theorem Opens.agints_ {H : Type} {enc : TypeId × Value → H} {P : Program} {w : World} {base : Nat} {spare : Nat → Bool} {held : Bool} {r : Reach} {b0 : Nat} {t s e : TypeId} {f0 : Field} {v : Value} {d : DataW H} {p : List MemPlace} (ht : P.underlying t = some (.struct #[f0])) (hone : oneCellFields P #[f0] = true) (hC : P.cellsOf t = 1)
    (hs : P.underlying s = some (.slice e)) (he : P.underlying e = some (.int .i64)) (hCe : P.cellsOf e = 1)
    (hv : Value.okWide P w r b0 t v) (h : DataW.Trod enc P w base spare held t v d p) (e0 : f0.type = s := by rfl) :
    ∃ (A : Option Addr) (c : Nat) (z : List Int), v = .agg #[.slice A z.length c] ∧ SlI w w.heap.size A z ∧ z.length ≤ c ∧ c ≤ maxLen ∧ ∀ x ∈ z, (Lit.int .i64 x).wf = true := by
  obtain ⟨cs, rfl, hsz⟩ := okWide_struct ht hv
  have hcs1 : ∃ v0, cs = #[v0] := by
    have h1 : cs.size = 1 := hsz.trans hC
    match cs, h1 with
    | ⟨[v0]⟩, _ => exact ⟨v0, rfl⟩
  obtain ⟨v0, rfl⟩ := hcs1
  obtain ⟨fuel, hf0⟩ := h
  obtain ⟨y0, n0, _, _, h0⟩ := trod_struct1 ht hf0
  obtain ⟨o0, k0⟩ := hone_of hone 0 f0 rfl
  have hf : DataW.trod enc P w base spare held n0 f0.type [v0] = some y0 := by simpa [Value.cells, o0, k0] using h0
  rw [e0] at hf
  rcases open_ints hs he hCe hf with ⟨hcs, _⟩ | ⟨a, n, c, zs, hcs, _, hl, hm, hz, _, hcell, hwz⟩
  · simp at hcs
    subst hcs
    exact ⟨none, 0, [], rfl, SlI.nil_, Nat.le_refl _, by simp [maxLen], by simp⟩
  · simp at hcs
    subst hcs
    have hle : n ≤ zs.length := by rw [hz]; split <;> omega
    have hlen : (zs.take n).length = n := by simp; omega
    refine ⟨some a, c, zs.take n, by rw [hlen], fun h0 => ?_, by omega, hm, fun x hx => hwz x (List.mem_of_mem_take hx)⟩
    have hc0 := hcell 0 (by omega)
    obtain ⟨b, off, spot⟩ := a
    have hsp : spot = none := by simpa [Addr.add] using World.cell?_spot hc0
    subst hsp
    refine ⟨b, off, rfl, ?_, fun j hj => ?_⟩
    · have := World.block_lt_of_cell? w _ hc0
      simpa [Addr.add] using this
    · have hj2 : j < n := by omega
      have := hcell j (by omega)
      rw [Addr.add_lit] at this
      rw [this]
      simp [hj2]

/-- results of that kind -/
def RetP (w : World) (L : List Int) (ok : Bool) (e : Ending) (w' : World) : Prop :=
  ∃ A c, e = .returned (.tuple #[.agg #[.slice A L.length c], .bool ok]) ∧ w'.ownsRow w.heap.size 3 1 (.slice A L.length c) L.length (ics L) ∧ Below w.heap.size w w'
def GivP (w : World) (L : List Int) (e : Ending) (w' : World) : Prop :=
  ∃ A c, e = .returned (.agg #[.slice A L.length c]) ∧ w'.ownsRow w.heap.size 3 1 (.slice A L.length c) L.length (ics L) ∧ Below w.heap.size w w'

theorem below_box {B : Nat} {w0 w : World} (h : Below B w0 w) (hB : B ≤ w0.heap.size) (o : Obj) : Below B w0 (w.alloc o) := h.alloc (Nat.le_trans hB h.size) _
/-- a box: a block of one cell -/
def Bo (w : World) (b : Nat) (v : Value) (t : TypeId) : Prop := w.heap[b]? = some (.cells #[v] t)
section
variable {w w' : World} {b : Nat} {v : Value} {t : TypeId}
theorem Bo.new (w : World) (v : Value) (t : TypeId) : Bo (w.alloc (.cells #[v] t)) w.heap.size v t := by
  exact heap_alloc_new w _
theorem Bo.lt (h : Bo w b v t) : b < w.heap.size := (Array.getElem?_eq_some_iff.1 h).1
theorem Bo.cell (h : Bo w b v t) : w.cell? ⟨b, 0, none⟩ = some v := by
  have h' : w.heap[b]? = some (.cells #[v] t) := h
  simp [World.cell?, h']
theorem Bo.frozen (h : Bo w b v t) : w.frozen? ⟨b, 0, none⟩ = false := by
  have h' : w.heap[b]? = some (.cells #[v] t) := h
  simp [World.frozen?, h']
theorem Bo.kept (h : Bo w b v t) (hb : Below w.heap.size w w') : Bo w' b v t := (hb.block b h.lt).trans h
theorem Bo.set (h : Bo w b v t) (u : Value) : Bo (w.setCell ⟨b, 0, none⟩ u) b u t := one_setCell h
theorem Bo.setFar {a : Addr} (h : Bo w b v t) (ha : b ≠ a.block) (u : Value) : Bo (w.setCell a u) b v t := (Below.heap_setCell _ _ _ _ ha).trans h
theorem Bo.alloc (h : Bo w b v t) (o : Obj) : Bo (w.alloc o) b v t := h.kept ((Below.refl _ _).alloc (Nat.le_refl _) _)
theorem Bo.far {row : Option Nat} (h : Bo w b v t) (hg : w.grownBy w' row) (hne : some b ≠ row) : Bo w' b v t := (hg.block b h.lt hne).trans h
theorem bo_ne {base e size n : Nat} {u : Value} {xs : List Value} (h : Bo w b v t) (r : w.ownsRow base e size u n xs) (hte : e ≠ t) : some b ≠ u.ownBlock := by
  intro he
  rcases r.2 with ⟨rfl, _⟩ | ⟨g, cap, cur, rfl, _, hh, _⟩
  · simp [Value.ownBlock] at he
  · simp [Value.ownBlock] at he
    subst he
    have h' : w.heap[b]? = some (.cells #[v] t) := h
    rw [h'] at hh
    injection hh with hh
    injection hh with _ ht
    exact hte ht.symm
end

set_option maxHeartbeats 800000 in
theorem laws_toPuzzle (A : Option Addr) (c B : Nat) (l : List Int) (w : World) (h : SlI w B A l) (hB : B ≤ w.heap.size) (hl : l.length ≤ 1048576) :
    Calls Try.prog 17 #[.agg #[.slice A l.length c]] w fun e w' => ∃ g, e = .returned (.agg #[.slice (some ⟨g, 0, none⟩) l.length l.length]) ∧
      w'.ownsRow w.heap.size 3 1 (.slice (some ⟨g, 0, none⟩) l.length l.length) l.length (ics l) ∧ Below w.heap.size w w' := by
  obtain ⟨w3, hw3⟩ : ∃ w3, w3 = ((w.alloc (.cells #[.slice A l.length c] 24)).alloc (.cells #[.slice none 0 0] 27)).alloc (.cells #[.slice none 0 0] 27) := ⟨_, rfl⟩
  have hb3 : Below w.heap.size w w3 := by
    rw [hw3]
    exact below_box (below_box (below_box (Below.refl _ _) (Nat.le_refl _) _) (Nat.le_refl _) _) (Nat.le_refl _) _
  have q1 : Bo w3 (w.heap.size + 1) (.slice none 0 0) 27 := by
    rw [hw3]
    have := Bo.new (w.alloc (.cells #[.slice A l.length c] 24)) (.slice none 0 0) 27
    simpa using this.alloc (.cells #[.slice none 0 0] 27)
  have q2 : Bo w3 (w.heap.size + 2) (.slice none 0 0) 27 := by
    rw [hw3]
    simpa using Bo.new ((w.alloc (.cells #[.slice A l.length c] 24)).alloc (.cells #[.slice none 0 0] 27)) (.slice none 0 0) 27
  have hs := h.below (hb3.mono hB)
  have Hb3 := Lib.hid hb3
  have Hs := Lib.hid hs
  have Q1 := Lib.hid q1
  have Q2 := Lib.hid q2
  have Hw3 := Lib.hid hw3
  clear hb3 hs q1 q2 hw3 h
  go_enter Try.func17, Try.ntmps17
  go_wp2_with fail
  rw [← Hw3.out]
  clear Hw3
  refine (laws_toIntS A c B l _ Hs.out (Nat.le_trans hB Hb3.out.size) hl).mono ?_
  rintro e w4 ⟨rfl, ho, hb4⟩
  have l1 := Q1.out.lt
  have l2 := Q2.out.lt
  have k1 := Q1.out.kept hb4
  have k2 := Q2.out.kept hb4
  have d1 := k1.cell
  have d2 := k2.cell
  have f1 := k1.frozen
  have f2 := k2.frozen
  have b4 := below_kept Hb3.out (Nat.le_refl _) hb4
  generalize w3.heap.size = N at *
  have o5 := ownsRow_setCell_below ho (a := ⟨w.heap.size + 2, 0, none⟩) l2 (.slice (some ⟨N, 0, none⟩) l.length l.length)
  have o6 := ownsRow_setCell_below o5 (a := ⟨w.heap.size + 1, 0, none⟩) l1 (.slice (some ⟨N, 0, none⟩) l.length l.length)
  have b5 := b4.setCell (p := ⟨w.heap.size + 2, 0, none⟩) (Nat.le_add_right _ _) (.slice (some ⟨N, 0, none⟩) l.length l.length)
  have b6 := b5.setCell (p := ⟨w.heap.size + 1, 0, none⟩) (Nat.le_add_right _ _) (.slice (some ⟨N, 0, none⟩) l.length l.length)
  have O6 := Lib.hid (o6.mono (base' := w.heap.size) (by omega))
  have B6 := Lib.hid b6
  clear o5 o6 b5 b6 b4 ho hb4 k1 k2 Q1 Q2 Hs Hb3
  go_wp2
  exact bodyPost_ret (v := .agg #[.slice (some ⟨N, 0, none⟩) l.length l.length]) (by simp [results, Try.results17, go_sem, d1, d2, f1, f2]) rfl ⟨N, rfl, O6.out, B6.out⟩

theorem laws_szPuzzle_le (A : Option Addr) (n c : Nat) (w : World) (hn : n ≤ 1048576) :
    Calls Try.prog 15 #[.agg #[.slice A n c], .int .i64 1048576] w fun e w' => e = .returned (.int .i64 (1048576 - (n : Int))) ∧ Below w.heap.size w w' := by
  have hb := Lib.hid (below_box (Below.refl w.heap.size w) (Nat.le_refl _) (.cells #[.slice A n c] 24))
  have hc := laws_szIntS A n c (w.alloc (.cells #[.slice A n c] 24)) (by unfold maxLen; omega)
  rw [if_pos hn] at hc
  have Hc := Lib.hid hc
  clear hc
  have h1 : ¬ (1048576 : Int) - (n : Int) < 0 := by omega
  go_enter Try.func15, Try.ntmps15
  go_wp2_with fail
  refine Hc.out.mono ?_
  rintro e w1 ⟨rfl, rfl⟩
  clear Hc
  go_wp2
  go_ret
  exact ⟨rfl, hb.out⟩
theorem laws_szPuzzle_gt (A : Option Addr) (n c : Nat) (w : World) (hn : 1048576 < n) (hm : n ≤ maxLen) :
    Calls Try.prog 15 #[.agg #[.slice A n c], .int .i64 1048576] w fun e w' => e = .returned (.int .i64 (-1)) ∧ Below w.heap.size w w' := by
  have hb := Lib.hid (below_box (Below.refl w.heap.size w) (Nat.le_refl _) (.cells #[.slice A n c] 24))
  have hc := laws_szIntS A n c (w.alloc (.cells #[.slice A n c] 24)) hm
  rw [if_neg (by omega)] at hc
  have Hc := Lib.hid hc
  clear hc hn hm
  go_enter Try.func15, Try.ntmps15
  go_wp2_with fail
  refine Hc.out.mono ?_
  rintro e w1 ⟨rfl, rfl⟩
  clear Hc
  go_wp2
  go_ret
  exact ⟨rfl, hb.out⟩

set_option maxHeartbeats 800000 in
theorem laws_eqPuzzle (A A' : Option Addr) (c c' B B' : Nat) (l : List Int) (w : World) (h : SlI w B A l) (hB : B ≤ w.heap.size) (h' : SlI w B' A' l) (hB' : B' ≤ w.heap.size) (hl : l.length ≤ 1000000000) :
    Calls Try.prog 19 #[.agg #[.slice A l.length c], .agg #[.slice A' l.length c']] w fun e w' => e = .returned (.bool true) ∧ Below w.heap.size w w' := by
  have hb := below_box (below_box (Below.refl w.heap.size w) (Nat.le_refl _) (.cells #[.slice A l.length c] 27)) (Nat.le_refl _) (.cells #[.slice A' l.length c'] 27)
  have Hs := Lib.hid (h.below (hb.mono hB))
  have Hs' := Lib.hid (h'.below (hb.mono hB'))
  have Hb := Lib.hid hb
  clear hb h h'
  go_enter Try.func19, Try.ntmps19
  go_wp2_with fail
  refine (laws_eqIntS A A' c c' B B' l _ Hs.out Hs'.out hl).mono ?_
  rintro e w1 ⟨rfl, hb1⟩
  have HE := Lib.hid (below_kept Hb.out (Nat.le_refl _) hb1)
  clear hb1 Hs Hs' Hb
  go_wp2
  go_ret
  exact ⟨rfl, HE.out⟩

theorem laws_heldPuzzle (A : Option Addr) (c B n : Nat) (w : World) (h : SlI w B A (marksI n 1)) (hB : B ≤ w.heap.size) (hl : n ≤ 1000000000) :
    Calls Try.prog 29 #[.agg #[.slice A n c], .int .i64 1] w fun e w' => e = .returned (.int .i64 ((n : Int) + 1)) ∧ Below w.heap.size w w' := by
  have hb := below_box (Below.refl w.heap.size w) (Nat.le_refl _) (.cells #[.slice A n c] 27)
  have Hs := Lib.hid (h.below (hb.mono hB))
  have Hb := Lib.hid hb
  have h1 : ¬ ((n : Int) + 1 < 0) := by omega
  clear hb h
  go_enter Try.func29, Try.ntmps29
  go_wp2_with fail
  refine (laws_heldIntS A c B n _ Hs.out hl).mono ?_
  rintro e w1 ⟨rfl, rfl⟩
  clear Hs
  go_wp2
  go_ret
  exact ⟨rfl, Hb.out⟩

theorem laws_markPuzzle_any (v : Value) (base e : Nat) (l : List Int) (w : World) (h : w.ownsRow base e 1 v l.length (ics l)) (hl : l.length ≤ 1000000000) :
    Calls Try.prog 28 #[.agg #[v], .int .i64 1] w fun r w' => r = .returned (.int .i64 ((l.length : Int) + 1)) ∧
      w'.ownsRow base e 1 v l.length (ics (marksI l.length 1)) ∧ ∃ wm, Below w.heap.size w wm ∧ wm.grownBy w' v.ownBlock := by
  obtain ⟨A, c, rfl⟩ := own_form h
  have hb := below_box (Below.refl w.heap.size w) (Nat.le_refl _) (.cells #[.slice A l.length c] 27)
  have Hs := Lib.hid (own_kept h hb)
  have Hb := Lib.hid hb
  clear hb h
  go_enter Try.func28, Try.ntmps28
  go_wp2_with fail
  refine (laws_markIntS_any _ base e l _ Hs.out hl).mono ?_
  rintro r w1 ⟨rfl, ho, hg⟩
  have Ho := Lib.hid ho
  have Hg := Lib.hid hg
  clear ho hg Hs
  go_wp2
  go_ret
  exact ⟨rfl, Ho.out, _, Hb.out, Hg.out⟩

theorem laws_toIntS_g (A : Option Addr) (c B : Nat) (l : List Int) (w : World) (h : SlI w B A l) (hB : B ≤ w.heap.size) (hl : l.length ≤ 1048576) :
    Calls Try.prog 23 #[.slice A l.length c] w fun e w' => ∃ g, e = .returned (.slice (some ⟨g, 0, none⟩) l.length l.length) ∧
      w'.ownsRow w.heap.size 3 1 (.slice (some ⟨g, 0, none⟩) l.length l.length) l.length (ics l) ∧ Below w.heap.size w w' :=
  (laws_toIntS A c B l w h hB hl).mono fun e w' ⟨h1, h2, h3⟩ => ⟨_, h1, h2, h3⟩
end Go.Proofs.Ytnoddecligmjbaa
