/- TcD: one text, since a claim holds 60 files at most. -/
import Derived.Test.YtfkkbjbgjmaciaaLawM
import Derived.Test.YtfkkbjbgjmaciaaOpen
import Derived.Test.YtfkkbjbgjmaciaaL1
import Derived.Test.YtfkkbjbgjmaciaaApp
import Derived.Test.YtfkkbjbgjmaciaaQuidM
import Derived.Test.YtfkkbjbgjmaciaaRevM
import Derived.Test.YtfkkbjbgjmaciaaGluS
import Derived.Laws.Rows
import Derived.OneCell
import Derived.IntWalk
import Derived.BigQuiet
import Derived.Deep.QuietTactic
/- PuzH: Laws of puzzles (a struct of one list of numbers): the argument opened; the laws' own helpers: copied, compared, marked, held, sized; how results of that kind are told. -/
namespace Go.Proofs.Ytfkkbjbgjmaciaa
set_option linter.unusedVariables false
open Go.RowKit

open Go.ChangeShapes Go.WideShapes Go.ChangeAt Go.Joins Go.Deep in
theorem Opens.agints_ {H : Type} {enc : TypeId × Value → H} {P : Program} {w : World} {base : Nat} {spare : Nat → Bool} {held : Bool} {r : Reach} {b0 : Nat} {t s e : TypeId} {f0 : Field} {v : Value} {d : DataW H} {p : List MemPlace} (ht : P.underlying t = some (.struct #[f0])) (hone : oneCellFields P #[f0] = true) (hC : P.cellsOf t = 1)
    (hs : P.underlying s = some (.slice e)) (he : P.underlying e = some (.int .i64)) (hCe : P.cellsOf e = 1)
    (hv : Value.okWide P w r b0 t v) (h : DataW.Trod enc P w base spare held t v d p) (e0 : f0.type = s := by rfl) :
    ∃ (A : Option Addr) (c : Nat) (z : List Int), v = .agg #[.slice A z.length c] ∧ SlI w w.heap.size A z ∧ z.length ≤ c ∧ c ≤ maxLen ∧ ∀ x ∈ z, (Lit.int .i64 x).wf = true := by
  obtain ⟨cs, rfl, hsz⟩ := okWide_struct ht hv
  have hcs1 : ∃ v0, cs = #[v0] := by
    have h1 : cs.size = 1 := hsz.trans hC
    match cs, h1 with
    | ⟨[v0]⟩, _ => exact ⟨v0, rfl⟩
  obtain ⟨v0, rfl⟩ := hcs1
  obtain ⟨fuel, hf0⟩ := h
  obtain ⟨y0, n0, _, _, h0⟩ := trod_struct1 ht hf0
  obtain ⟨o0, k0⟩ := hone_of hone 0 f0 rfl
  have hf : DataW.trod enc P w base spare held n0 f0.type [v0] = some y0 := by simpa [Value.cells, o0, k0] using h0
  rw [e0] at hf
  rcases open_ints hs he hCe hf with ⟨hcs, _⟩ | ⟨a, n, c, zs, hcs, _, hl, hm, hz, _, hcell, hwz⟩
  · simp at hcs
    subst hcs
    exact ⟨none, 0, [], rfl, SlI.nil_, Nat.le_refl _, by simp [maxLen], by simp⟩
  · simp at hcs
    subst hcs
    have hle : n ≤ zs.length := by rw [hz]; split <;> omega
    have hlen : (zs.take n).length = n := by simp; omega
    refine ⟨some a, c, zs.take n, by rw [hlen], fun h0 => ?_, by omega, hm, fun x hx => hwz x (List.mem_of_mem_take hx)⟩
    have hc0 := hcell 0 (by omega)
    obtain ⟨b, off, spot⟩ := a
    have hsp : spot = none := by simpa [Addr.add] using World.cell?_spot hc0
    subst hsp
    refine ⟨b, off, rfl, ?_, fun j hj => ?_⟩
    · have := World.block_lt_of_cell? w _ hc0
      simpa [Addr.add] using this
    · have hj2 : j < n := by omega
      have := hcell j (by omega)
      rw [Addr.add_lit] at this
      rw [this]
      simp [hj2]

/-- results of that kind -/
def RetP (w : World) (L : List Int) (ok : Bool) (e : Ending) (w' : World) : Prop :=
  ∃ A c, e = .returned (.tuple #[.agg #[.slice A L.length c], .bool ok]) ∧ w'.ownsRow w.heap.size 3 1 (.slice A L.length c) L.length (ics L) ∧ Below w.heap.size w w'
def GivP (w : World) (L : List Int) (e : Ending) (w' : World) : Prop :=
  ∃ A c, e = .returned (.agg #[.slice A L.length c]) ∧ w'.ownsRow w.heap.size 3 1 (.slice A L.length c) L.length (ics L) ∧ Below w.heap.size w w'

theorem below_box {B : Nat} {w0 w : World} (h : Below B w0 w) (hB : B ≤ w0.heap.size) (o : Obj) : Below B w0 (w.alloc o) := h.alloc (Nat.le_trans hB h.size) _
/-- a box: a block of one cell -/
def Bo (w : World) (b : Nat) (v : Value) (t : TypeId) : Prop := w.heap[b]? = some (.cells #[v] t)
section
variable {w w' : World} {b : Nat} {v : Value} {t : TypeId}
theorem Bo.new (w : World) (v : Value) (t : TypeId) : Bo (w.alloc (.cells #[v] t)) w.heap.size v t := by
  exact heap_alloc_new w _
theorem Bo.lt (h : Bo w b v t) : b < w.heap.size := (Array.getElem?_eq_some_iff.1 h).1
theorem Bo.cell (h : Bo w b v t) : w.cell? ⟨b, 0, none⟩ = some v := by
  have h' : w.heap[b]? = some (.cells #[v] t) := h
  simp [World.cell?, h']
theorem Bo.frozen (h : Bo w b v t) : w.frozen? ⟨b, 0, none⟩ = false := by
  have h' : w.heap[b]? = some (.cells #[v] t) := h
  simp [World.frozen?, h']
theorem Bo.kept (h : Bo w b v t) (hb : Below w.heap.size w w') : Bo w' b v t := (hb.block b h.lt).trans h
theorem Bo.set (h : Bo w b v t) (u : Value) : Bo (w.setCell ⟨b, 0, none⟩ u) b u t := one_setCell h
theorem Bo.setFar {a : Addr} (h : Bo w b v t) (ha : b ≠ a.block) (u : Value) : Bo (w.setCell a u) b v t := (Below.heap_setCell _ _ _ _ ha).trans h
theorem Bo.alloc (h : Bo w b v t) (o : Obj) : Bo (w.alloc o) b v t := h.kept ((Below.refl _ _).alloc (Nat.le_refl _) _)
theorem Bo.far {row : Option Nat} (h : Bo w b v t) (hg : w.grownBy w' row) (hne : some b ≠ row) : Bo w' b v t := (hg.block b h.lt hne).trans h
theorem bo_ne {base e size n : Nat} {u : Value} {xs : List Value} (h : Bo w b v t) (r : w.ownsRow base e size u n xs) (hte : e ≠ t) : some b ≠ u.ownBlock := by
  intro he
  rcases r.2 with ⟨rfl, _⟩ | ⟨g, cap, cur, rfl, _, hh, _⟩
  · simp [Value.ownBlock] at he
  · simp [Value.ownBlock] at he
    subst he
    have h' : w.heap[b]? = some (.cells #[v] t) := h
    rw [h'] at hh
    injection hh with hh
    injection hh with _ ht
    exact hte ht.symm
end






end Go.Proofs.Ytfkkbjbgjmaciaa

/- PzB: Is a list of numbers a puzzle? The model's and the program's. -/
namespace Go.Proofs.Ytfkkbjbgjmaciaa
open Go.RowKit

/-- a puzzle's length; a puzzle -/
def pzL (n : Nat) : Bool := decide (3 ≤ n ∧ n ≤ 9)
def pzB (l : List Int) : Bool := pzL l.length && allB l 0 ((l.length : Int) - 2)
theorem pzB_len {l : List Int} (h : pzB l = true) : 3 ≤ l.length ∧ l.length ≤ 9 := by
  unfold pzB pzL at h
  simp at h
  omega
theorem pzB_get {l : List Int} (h : pzB l = true) (k : Nat) (hk : k < l.length) : 0 ≤ l.getD k 0 ∧ l.getD k 0 ≤ (l.length : Int) - 2 := by
  unfold pzB at h
  simp only [Bool.and_eq_true] at h
  exact allB_iff.1 h.2 k hk




end Go.Proofs.Ytfkkbjbgjmaciaa

/- PzC: The places that are no gaps, of the program; gaps counted, of the model and of the program. -/
namespace Go.Proofs.Ytfkkbjbgjmaciaa
open Go.RowKit

/-- the indices of the first k numbers that are not 0 -/
def fullF (q : List Int) (k : Nat) : List Int := ((List.range k).filter fun i => q.getD i 0 != 0).map fun (i : Nat) => (i : Int)
theorem fullF_zero (q : List Int) : fullF q 0 = [] := rfl
theorem fullF_hit (q : List Int) (k : Nat) (h : q.getD k 0 ≠ 0) : fullF q (k + 1) = fullF q k ++ [(k : Int)] := by
  unfold fullF
  rw [List.range_succ, List.filter_append]
  simp at h
  simp [h]
theorem fullF_miss (q : List Int) (k : Nat) (h : q.getD k 0 = 0) : fullF q (k + 1) = fullF q k := by
  unfold fullF
  rw [List.range_succ, List.filter_append]
  simp
  simpa using h
theorem fullF_le (q : List Int) (k : Nat) : (fullF q k).length ≤ k := by
  unfold fullF
  rw [List.length_map]
  have := List.length_filter_le (fun i => q.getD i 0 != 0) (List.range k)
  simpa using this
theorem fullF_get (q : List Int) : ∀ (k j : Nat), j < (fullF q k).length → ∃ p : Nat, (fullF q k).getD j 0 = (p : Int) ∧ p < k ∧ q.getD p 0 ≠ 0 := by
  intro k j hj
  unfold fullF at hj ⊢
  rw [List.length_map] at hj
  have hm := List.getElem_mem hj
  rw [List.mem_filter] at hm
  obtain ⟨h1, h2⟩ := hm
  refine ⟨((List.range k).filter fun i => q.getD i 0 != 0)[j], ?_, by simpa using h1, by simpa using h2⟩
  rw [List.getD_eq_getElem?_getD, List.getElem?_map, List.getElem?_eq_getElem hj]
  rfl
/-- how many of the first k are 0 -/
def gapN (q : List Int) (k : Nat) : Int := (k : Int) - ((fullF q k).length : Int)
theorem gapN_bd (q : List Int) (k : Nat) : 0 ≤ gapN q k ∧ gapN q k ≤ (k : Int) := by
  have := fullF_le q k
  unfold gapN
  omega
theorem gapN_hit (q : List Int) (k : Nat) (h : q.getD k 0 = 0) : gapN q (k + 1) = gapN q k + 1 := by
  unfold gapN
  rw [fullF_miss q k h]
  omega
theorem gapN_miss (q : List Int) (k : Nat) (h : q.getD k 0 ≠ 0) : gapN q (k + 1) = gapN q k := by
  unfold gapN
  rw [fullF_hit q k h]
  simp
  omega

/-- what holds at the head of the loop that collects the places -/
def Fulls (w2 : World) (q : List Int) (k : Nat) (v : Value) (wr : World) : Prop :=
  ∃ A' c', v = .slice A' (fullF q k).length c' ∧ wr.ownsRow w2.heap.size 3 1 (.slice A' (fullF q k).length c') (fullF q k).length (ics (fullF q k)) ∧ Below w2.heap.size w2 wr


/-- gaps counted, 0 of what is no puzzle -/
def gapR (l : List Int) : Int := if pzB l = true then gapN l l.length else 0
def GapE (l : List Int) (w : World) (e : Ending) (w' : World) : Prop := e = .returned (.tuple #[.int .i64 (gapR l), .bool (pzB l)]) ∧ Below w.heap.size w w'
theorem gapE_no {l : List Int} {w w' : World} (h : pzB l = false) (hb : Below w.heap.size w w') : GapE l w (.returned (.tuple #[.int .i64 0, .bool false])) w' := by
  unfold GapE gapR
  rw [h]
  exact ⟨rfl, hb⟩
theorem gapE_yes {l : List Int} {w w' : World} (h : pzB l = true) (hb : Below w.heap.size w w') : GapE l w (.returned (.tuple #[.int .i64 (gapN l l.length), .bool true])) w' := by
  unfold GapE gapR
  rw [h]
  exact ⟨rfl, hb⟩


end Go.Proofs.Ytfkkbjbgjmaciaa

/- MkM: Puzzles made by numbers: an ear put on a quiddity keeps it one; the numbers told; places that become gaps: plain mathematics. -/
namespace Go.Proofs.Ytfkkbjbgjmaciaa

theorem gluP_get (q : List Int) (p j : Nat) (h : p ≤ q.length) : (gluP q p).getD j 0 = if j < p then q.getD j 0 else if j = p then 1 else q.getD (j - 1) 0 := by
  have hl : (q.take p).length = p := by simp; omega
  unfold gluP
  simp only [List.getD_eq_getElem?_getD, List.append_assoc]
  by_cases h1 : j < p
  · rw [if_pos h1, List.getElem?_append_left (by omega)]
    simp [h1]
  · rw [if_neg h1, List.getElem?_append_right (by omega), hl]
    by_cases h2 : j = p
    · rw [if_pos h2]
      simp [h2]
    · rw [if_neg h2]
      obtain ⟨d, hd⟩ : ∃ d, j - p = d + 1 := ⟨j - p - 1, by omega⟩
      rw [hd]
      simp
      rw [show p + d = j - 1 by omega]
theorem gInc_get (l : List Int) (k j : Nat) (hj : j < l.length) : (gInc l k).getD j 0 = if k = j then l.getD j 0 + 1 else l.getD j 0 := by
  unfold gInc
  simp only [List.getD_eq_getElem?_getD]
  by_cases h : k = j
  · subst h
    simp [hj]
  · simp [h, List.getElem?_set_ne h]
theorem glueL_get (q : List Int) (t j : Nat) (h : t < q.length) (hj : j < q.length + 1) : (glueL q t).getD j 0 = (if j < t + 1 then q.getD j 0 else if j = t + 1 then 1 else q.getD (j - 1) 0) + (if t = j then 1 else 0) + (if (t + 2) % (q.length + 1) = j then 1 else 0) := by
  unfold glueL
  have h1 : (gluP q (t + 1)).length = q.length + 1 := gluP_length q (t + 1) (by omega)
  rw [gInc_get _ _ _ (by rw [gInc_length, h1]; exact hj), gInc_get _ _ _ (by rw [h1]; exact hj), gluP_get q (t + 1) j (by omega)]
  by_cases h2 : t = j <;> by_cases h3 : (t + 2) % (q.length + 1) = j <;> simp only [h2, h3, if_true, if_false] <;> omega
theorem cut_glue (q : List Int) (t : Nat) (h3 : 3 ≤ q.length) (h : t < q.length) : cutL (glueL q t) (t + 1) = q := by
  have hl := glueL_length q t (by omega)
  refine ext_getD (by rw [cutL_length _ _ (by omega), hl]; omega) fun j hj => ?_
  rw [cutL_length _ _ (by omega), hl] at hj
  have hm : (t + 2) % (q.length + 1) = if t + 2 = q.length + 1 then 0 else t + 2 := by
    split
    · next e => rw [e]; exact Nat.mod_self _
    · exact Nat.mod_eq_of_lt (by omega)
  rw [cutL_at _ _ _ (by omega) (by omega) (by omega), hl]
  have hpre : preL (q.length + 1) (t + 1) = t := by unfold preL; rw [if_neg (by omega)]; omega
  have hsuc : sucL (q.length + 1) (t + 1) = (t + 2) % (q.length + 1) := by
    rw [hm]
    unfold sucL
    split <;> omega
  unfold nbL
  rw [hpre, hsuc]
  rcases up_eq (t + 1) j with ⟨e1, e2⟩ | ⟨e1, e2⟩
  · rw [e2, glueL_get q t j h (by omega), if_pos e1]
    have e3 : (if j = t then (1 : Int) else 0) = if t = j then 1 else 0 := by split <;> split <;> omega
    have e4 : (if j = (t + 2) % (q.length + 1) then (1 : Int) else 0) = if (t + 2) % (q.length + 1) = j then 1 else 0 := by split <;> split <;> omega
    rw [e3, e4]
    omega
  · rw [e2, glueL_get q t (j + 1) h (by omega), if_neg (by omega), if_neg (by omega), Nat.add_sub_cancel]
    have e3 : (if j + 1 = t then (1 : Int) else 0) = if t = j + 1 then 1 else 0 := by split <;> split <;> omega
    have e4 : (if j + 1 = (t + 2) % (q.length + 1) then (1 : Int) else 0) = if (t + 2) % (q.length + 1) = j + 1 then 1 else 0 := by split <;> split <;> omega
    rw [e3, e4]
    omega
theorem glue_isQ {q : List Int} {t : Nat} (hq : isQ q = true) (h11 : q.length ≤ 11) (ht : t < q.length) : isQ (glueL q t) = true := by
  obtain ⟨h3, _⟩ := isQ_len hq
  have hl := glueL_length q t (by omega)
  have hb := fun i hi => isQ_get hq i hi
  rw [isQ_red] at hq ⊢
  rw [Bool.and_eq_true] at hq ⊢
  obtain ⟨f, hf⟩ : ∃ f, q.length = f + 3 := ⟨q.length - 3, by omega⟩
  have h1 : (glueL q t).getD (t + 1) 0 = 1 := by
    rw [glueL_get q t (t + 1) ht (by omega), if_neg (by omega), if_pos rfl, if_neg (by omega), if_neg]
    · rfl
    · intro e
      have : (t + 2) % (q.length + 1) = if t + 2 = q.length + 1 then 0 else t + 2 := by
        split
        · next e => rw [e]; exact Nat.mod_self _
        · exact Nat.mod_eq_of_lt (by omega)
      rw [this] at e
      split at e <;> omega
  constructor
  · unfold couldB poB
    rw [Bool.and_eq_true, hl]
    refine ⟨by simp; omega, allB_iff.2 fun i hi => ?_⟩
    rw [hl] at hi
    rw [glueL_get q t i ht hi]
    have hr : 1 ≤ (if i < t + 1 then q.getD i 0 else if i = t + 1 then 1 else q.getD (i - 1) 0) ∧ (if i < t + 1 then q.getD i 0 else if i = t + 1 then 1 else q.getD (i - 1) 0) ≤ (q.length : Int) - 2 := by
      split
      · exact hb i (by omega)
      · split
        · omega
        · exact hb (i - 1) (by omega)
    have hne : t ≠ (t + 2) % (q.length + 1) := by
      intro e
      have : (t + 2) % (q.length + 1) = if t + 2 = q.length + 1 then 0 else t + 2 := by
        split
        · next e => rw [e]; exact Nat.mod_self _
        · exact Nat.mod_eq_of_lt (by omega)
      rw [this] at e
      split at e <;> omega
    generalize (if i < t + 1 then q.getD i 0 else if i = t + 1 then 1 else q.getD (i - 1) 0) = x at *
    generalize (t + 2) % (q.length + 1) = r at *
    have : ¬(t = i ∧ r = i) := fun ⟨a, b⟩ => hne (a.trans b.symm)
    split <;> split <;> omega
  · rw [hl]
    have h5 : red f (cutL (glueL q t) (t + 1)) = true := by
      rw [cut_glue q t h3 ht]
      have := hq.2
      rw [hf] at this
      simpa using this
    have h6 := red_ear (anyEar f) (l := glueL q t) (by omega) (i := t + 1) (by omega) h1 h5
    rw [show q.length + 1 - 3 = f + 1 by omega]
    exact h6

/-- the next number -/
def mkZ (z : Int) : Int := (z * 187 + 3301) % 10007
theorem mkZ_bd {z : Int} (h : 0 ≤ z) : 0 ≤ mkZ z ∧ mkZ z ≤ 10006 := by
  unfold mkZ
  omega
theorem mkM_bd {z : Int} {m : Nat} (h : 0 ≤ z) (hm : 0 < m) : 0 ≤ mkZ z % (m : Int) ∧ mkZ z % (m : Int) < (m : Int) := by
  exact ⟨Int.emod_nonneg _ (by omega), Int.emod_lt_of_pos _ (by omega)⟩
/-- ears put on, so often -/
def mkA : Nat → Int → List Int → Int × List Int
  | 0, z, q => (z, q)
  | f + 1, z, q => mkA f (mkZ z) (glueL q (mkZ z % (q.length : Int)).toNat)
/-- gaps made, so often -/
def mkS (z : Int) (q : List Int) : List Int := q.set ((fullF q q.length).getD (mkZ z % ((fullF q q.length).length : Int)).toNat 0).toNat 0
def mkB : Nat → Int → List Int → List Int
  | 0, _, q => q
  | g + 1, z, q => mkB g (mkZ z) (mkS z q)
theorem mkS_length (z : Int) (q : List Int) : (mkS z q).length = q.length := by simp [mkS]
theorem mkB_length : ∀ (g : Nat) (z : Int) (q : List Int), (mkB g z q).length = q.length := by
  intro g
  induction g with
  | zero => intro z q; rfl
  | succ g ih => intro z q; rw [mkB, ih, mkS_length]
theorem mkA_isQ : ∀ (f : Nat) (z : Int) (q : List Int), 0 ≤ z → isQ q = true → q.length + f ≤ 12 → isQ (mkA f z q).2 = true ∧ (mkA f z q).2.length = q.length + f ∧ 0 ≤ (mkA f z q).1 := by
  intro f
  induction f with
  | zero => intro z q hz hq _; exact ⟨hq, rfl, hz⟩
  | succ f ih =>
    intro z q hz hq hl
    obtain ⟨h3, _⟩ := isQ_len hq
    obtain ⟨m0, m1⟩ := mkM_bd (m := q.length) hz (by omega)
    have ht : (mkZ z % (q.length : Int)).toNat < q.length := by omega
    have hg := glueL_length q _ (show (mkZ z % (q.length : Int)).toNat + 1 ≤ q.length by omega)
    obtain ⟨r1, r2, r3⟩ := ih (mkZ z) _ (mkZ_bd hz).1 (glue_isQ hq (by omega) ht) (by rw [hg]; omega)
    rw [hg] at r2
    exact ⟨r1, by rw [mkA, r2]; omega, r3⟩
theorem fullF_same (q : List Int) (k : Nat) (r : List Int) (h : ∀ i, i < k → (q.getD i 0 = 0 ↔ r.getD i 0 = 0)) : fullF q k = fullF r k := by
  induction k with
  | zero => rfl
  | succ k ih =>
    have ih' := ih fun i hi => h i (by omega)
    by_cases hx : q.getD k 0 = 0
    · rw [fullF_miss q k hx, fullF_miss r k ((h k (by omega)).1 hx), ih']
    · rw [fullF_hit q k hx, fullF_hit r k (fun e => hx ((h k (by omega)).2 e)), ih']
theorem set_getI (q : List Int) (p i : Nat) (hp : p < q.length) : (q.set p 0).getD i 0 = if i = p then 0 else q.getD i 0 := by
  simp only [List.getD_eq_getElem?_getD]
  by_cases h : i = p
  · subst h
    simp [hp]
  · simp [h, List.getElem?_set_ne (Ne.symm h)]
theorem fullF_set (q : List Int) (p : Nat) (hp : p < q.length) (hx : q.getD p 0 ≠ 0) : ∀ k, p < k → (fullF (q.set p 0) k).length + 1 = (fullF q k).length := by
  intro k
  induction k with
  | zero => intro h; omega
  | succ k ih =>
    intro hk
    by_cases hpk : p = k
    · subst hpk
      rw [fullF_miss (q.set p 0) p (by rw [set_getI q p p hp, if_pos rfl]), fullF_hit q p hx, fullF_same (q.set p 0) p q (fun i hi => by rw [set_getI q p i hp, if_neg (by omega)])]
      simp
    · have ih' := ih (by omega)
      have e := set_getI q p k hp
      rw [if_neg (by omega)] at e
      by_cases hz : q.getD k 0 = 0
      · rw [fullF_miss q k hz, fullF_miss _ k (by rw [e]; exact hz)]
        exact ih'
      · rw [fullF_hit q k hz, fullF_hit _ k (by rw [e]; exact hz)]
        simp
        omega
theorem mkS_full (z : Int) (q : List Int) (hz : 0 ≤ z) (h : 0 < (fullF q q.length).length) : (fullF (mkS z q) q.length).length + 1 = (fullF q q.length).length := by
  obtain ⟨m0, m1⟩ := mkM_bd (m := (fullF q q.length).length) hz h
  obtain ⟨p, e, hp, hx⟩ := fullF_get q q.length (mkZ z % ((fullF q q.length).length : Int)).toNat (by omega)
  unfold mkS
  rw [e]
  exact fullF_set q p hp hx q.length hp
theorem full_all {q : List Int} (h : ∀ i, i < q.length → q.getD i 0 ≠ 0) : ∀ k, k ≤ q.length → (fullF q k).length = k := by
  intro k
  induction k with
  | zero => intro _; rfl
  | succ k ih =>
    intro hk
    rw [fullF_hit q k (h k (by omega)), List.length_append, ih (by omega)]
    rfl
def mkOk (n g s : Int) : Bool := inB n 3 9 && inB g 0 n && inB s 0 9999
def mkR (n g s : Int) : List Int := if mkOk n g s = true then mkB g.toNat (mkA (n.toNat - 3) s [1, 1, 1]).1 (mkA (n.toNat - 3) s [1, 1, 1]).2 else []
theorem tri_isQ : isQ [1, 1, 1] = true := by decide +kernel
end Go.Proofs.Ytfkkbjbgjmaciaa

/- CurN: The cursor that the draws read: its next byte. -/
namespace Go.Proofs.Ytfkkbjbgjmaciaa
open Go.RowKit

/-- a slice of bytes, below block B -/
def CodeB (w : World) (B : Nat) (A : Option Addr) (n : Nat) : Prop :=
  0 < n → ∃ b off, A = some ⟨b, off, none⟩ ∧ b < B ∧ ∀ j, j < n → ∃ x : Int, (0 ≤ x ∧ x ≤ 255) ∧ w.cell? ⟨b, off + j, none⟩ = some (.int .u8 x)
theorem CodeB.keep {w w' : World} {B : Nat} {A : Option Addr} {n : Nat} (h : CodeB w B A n) (hk : ∀ b o, b < B → w'.cell? ⟨b, o, none⟩ = w.cell? ⟨b, o, none⟩) : CodeB w' B A n := fun h0 => by
  obtain ⟨b, off, e, hb, hc⟩ := h h0
  refine ⟨b, off, e, hb, fun j hj => ?_⟩
  obtain ⟨x, hx, hc⟩ := hc j hj
  exact ⟨x, hx, (hk _ _ hb).trans hc⟩
/-- a cursor: block g; it has taken at most N bytes -/
def Cur (w : World) (g N : Nat) : Prop :=
  ∃ (A : Option Addr) (n c a : Nat) (s : Int), n ≤ 1048576 ∧ a ≤ N ∧ (0 ≤ s ∧ s ≤ 18446744073709551615) ∧ w.heap[g]? = some (.cells #[.slice A n c, .int .i64 a, .int .u64 s] 98) ∧ CodeB w g A n
theorem Cur.more {w : World} {g N N' : Nat} (h : Cur w g N) (hN : N ≤ N') : Cur w g N' := by
  obtain ⟨A, n, c, a, s, h1, h2, h3, h4, h5⟩ := h
  exact ⟨A, n, c, a, s, h1, by omega, h3, h4, h5⟩
theorem Cur.lt {w : World} {g N : Nat} (h : Cur w g N) : g < w.heap.size := by
  obtain ⟨A, n, c, a, s, h1, h2, h3, h4, h5⟩ := h
  exact (Array.getElem?_eq_some_iff.1 h4).1
theorem Cur.kept {w w' : World} {g N : Nat} (h : Cur w g N) (hb : Below w.heap.size w w') : Cur w' g N := by
  have hl := h.lt
  obtain ⟨A, n, c, a, s, h1, h2, h3, h4, h5⟩ := h
  exact ⟨A, n, c, a, s, h1, h2, h3, (hb.block g hl).trans h4, h5.keep fun b o hb' => hb.cell (p := ⟨b, o, none⟩) (Nat.lt_trans hb' hl)⟩
theorem Cur.far {w w' : World} {g N : Nat} {row : Option Nat} (h : Cur w g N) (hg : w.grownBy w' row) (hr : ∀ k, row = some k → g < k) : Cur w' g N := by
  have hl := h.lt
  have hne : ∀ b, b ≤ g → some b ≠ row := fun b hb e => by have := hr b e.symm; omega
  obtain ⟨A, n, c, a, s, h1, h2, h3, h4, h5⟩ := h
  refine ⟨A, n, c, a, s, h1, h2, h3, (hg.block g hl (hne g (Nat.le_refl _))).trans h4, h5.keep fun b o hb' => ?_⟩
  exact World.cell?_of_block (w := w) (hg.block b (Nat.lt_trans hb' hl) (hne b (Nat.le_of_lt hb')))
theorem grownC_drewN {w w' : World} {row : Option Nat} (h : w.grownBy w' row) (k : Nat) : w.grownBy (w'.drewN k) row := ⟨h.os, h.tape, h.output, h.size, h.block⟩

theorem grownC_set (w : World) (g j : Nat) (v : Value) : w.grownBy (w.setCell ⟨g, j, none⟩ v) (some g) :=
  ⟨rfl, rfl, rfl, by simp, fun k _ hk => heap_setCell_other w ⟨g, j, none⟩ k v (fun e => hk (by simp [e]))⟩
theorem cur_step {w : World} {g : Nat} {v : Value} {a s : Int} {t : TypeId} (h : w.heap[g]? = some (.cells #[v, .int .i64 a, .int .u64 s] t)) (k : Nat) (a' s' : Int) :
    ∃ w4, w4 = ((w.drewN k).setCell ⟨g, 1, none⟩ (.int .i64 a')).setCell ⟨g, 2, none⟩ (.int .u64 s') ∧ w4.heap[g]? = some (.cells #[v, .int .i64 a', .int .u64 s'] t) ∧ w.grownBy w4 (some g) := by
  refine ⟨_, rfl, ?_, ?_⟩
  · have h1 := heap_setCell_same (w.drewN k) g 1 _ _ (.int .i64 a') (show (w.drewN k).heap[g]? = _ from h)
    have h2 := heap_setCell_same _ g 2 _ _ (.int .u64 s') h1
    simpa using h2
  · exact World.grownBy.trans (grownC_drewN (World.grownBy.refl w _) k) ((grownC_set _ g 1 _).trans (grownC_set _ g 2 _))
theorem wrap_u64 (x : Int) : 0 ≤ IntKind.u64.wrap x ∧ IntKind.u64.wrap x ≤ 18446744073709551615 := by
  unfold IntKind.wrap
  simp [IntKind.bits, IntKind.signed]
  omega

theorem and_255 (x : Int) : 0 ≤ bits .and .u64 x 255 ∧ bits .and .u64 x 255 ≤ 255 := by
  have h : (BitVec.ofInt 64 x &&& BitVec.ofInt 64 255).toNat ≤ 255 := by
    rw [BitVec.toNat_and]
    exact Nat.le_trans Nat.and_le_right (by decide)
  have e : bits .and .u64 x 255 = IntKind.u64.wrap ((BitVec.ofInt 64 x &&& BitVec.ofInt 64 255).toNat : Int) := rfl
  rw [e]
  generalize (BitVec.ofInt 64 x &&& BitVec.ofInt 64 255).toNat = y at *
  unfold IntKind.wrap
  simp [IntKind.bits, IntKind.signed]
  omega

set_option maxRecDepth 100000 in
set_option maxHeartbeats 6400000 in
theorem spec_next (g N : Nat) (w : World) (h : Cur w g N) (hN : N ≤ 1000000000000) :
    Calls Try.prog 173 #[.pointer (some ⟨g, 0, none⟩)] w fun e w' => ∃ r : Int, e = .returned (.int .i64 r) ∧ (0 ≤ r ∧ r ≤ 255) ∧ Cur w' g (N + 1) ∧ w.grownBy w' (some g) := by
  obtain ⟨A, n, c, a, s, h1, h2, ⟨s0, s1⟩, h4, h5⟩ := h
  have c0 : w.cell? ⟨g, 0, none⟩ = some (.slice A n c) := by simp [World.cell?, h4]
  have c1 : w.cell? ⟨g, 1, none⟩ = some (.int .i64 a) := by simp [World.cell?, h4]
  have c2 : w.cell? ⟨g, 2, none⟩ = some (.int .u64 s) := by simp [World.cell?, h4]
  have f1 : w.frozen? ⟨g, 1, none⟩ = false := by simp [World.frozen?, h4]
  have f2 : w.frozen? ⟨g, 2, none⟩ = false := by simp [World.frozen?, h4]
  have a0 : (a : Int) ≤ 1000000000000 := by omega
  have n0 : (n : Int) ≤ 1048576 := by omega
  have hgl : g < w.heap.size := (Array.getElem?_eq_some_iff.1 h4).1
  have HE : Hid (∀ (k : Nat) (s' : Int), 0 ≤ s' ∧ s' ≤ 18446744073709551615 → ∃ w4, w4 = ((w.drewN k).setCell ⟨g, 1, none⟩ (.int .i64 ((a : Int) + 1))).setCell ⟨g, 2, none⟩ (.int .u64 s') ∧ Cur w4 g (N + 1) ∧ w.grownBy w4 (some g) ∧ w4.cell? ⟨g, 0, none⟩ = some (.slice A n c) ∧ w4.cell? ⟨g, 1, none⟩ = some (.int .i64 ((a : Int) + 1)) ∧ w4.cell? ⟨g, 2, none⟩ = some (.int .u64 s')) := Lib.hid fun k s' hs' => by
    obtain ⟨w4, e4, k4, g4⟩ := cur_step h4 k ((a : Int) + 1) s'
    refine ⟨w4, e4, ⟨A, n, c, a + 1, s', h1, by omega, hs', k4, h5.keep fun b o hb => ?_⟩, g4, by simp [World.cell?, k4], by simp [World.cell?, k4], by simp [World.cell?, k4]⟩
    exact World.cell?_of_block (w := w) (g4.block b (Nat.lt_trans hb hgl) (fun e => by injection e with e; omega))
  by_cases hlt : a < n
  · obtain ⟨b, off, rfl, hb, hc⟩ := h5 (by omega)
    obtain ⟨x, ⟨x0, x1⟩, cx⟩ := hc a hlt
    have i1 : (a : Int) < (n : Int) := by omega
    have i2 : (a : Int) + 1 ≤ (n : Int) := by omega
    clear h4 h5 hc hgl
    go_enter Try.func173, Try.ntmps173
    go_wp2
    go_quiet (fail)
    rename Nat => k1
    go_wp2
    go_quiet (fail)
    rename Nat => k2
    go_wp2
    have hsw := wrap_u64 (IntKind.u64.wrap (IntKind.u64.wrap (s * 6364136223846793005) + x) + 1442695040888963407)
    generalize IntKind.u64.wrap (IntKind.u64.wrap (IntKind.u64.wrap (s * 6364136223846793005) + x) + 1442695040888963407) = s' at *
    obtain ⟨w4, e4, hcur, hg4, d0, d1, d2⟩ := HE.out (k1 + k2) s' hsw
    rw [← e4]
    have HF := Lib.hid (And.intro hcur hg4)
    clear HE c0 c1 c2 f1 f2 cx e4 hcur hg4
    go_quiet (fail)
    rename Nat => k3
    go_wp2
    go_ret
    exact ⟨x, rfl, ⟨x0, x1⟩, HF.out.1, grownC_drewN HF.out.2 k3⟩
  · have i1 : ¬ (a : Int) < (n : Int) := by omega
    have i2 : ¬ (a : Int) + 1 ≤ (n : Int) := by omega
    clear h4 h5 hgl
    go_enter Try.func173, Try.ntmps173
    go_wp2
    go_quiet (fail)
    rename Nat => k1
    go_wp2
    have hsw := wrap_u64 (IntKind.u64.wrap (IntKind.u64.wrap (s * 6364136223846793005)) + 1442695040888963407)
    generalize IntKind.u64.wrap (IntKind.u64.wrap (IntKind.u64.wrap (s * 6364136223846793005)) + 1442695040888963407) = s' at *
    obtain ⟨w4, e4, hcur, hg4, d0, d1, d2⟩ := HE.out k1 s' hsw
    rw [← e4]
    have HF := Lib.hid (And.intro hcur hg4)
    clear HE c0 c1 c2 f1 f2 e4 hcur hg4
    go_quiet (fail)
    rename Nat => k3
    go_wp2
    have hr := and_255 (s' / 1099511627776)
    have hw : wrap64 (bits BinOp.and IntKind.u64 (s' / 1099511627776) 255) = bits BinOp.and IntKind.u64 (s' / 1099511627776) 255 := by unfold wrap64; omega
    go_ret
    exact ⟨wrap64 (bits BinOp.and IntKind.u64 (s' / 1099511627776) 255), rfl, by rw [hw]; exact hr, HF.out.1, grownC_drewN HF.out.2 k3⟩
end Go.Proofs.Ytfkkbjbgjmaciaa

/- OpenB: Arguments of a general law opened: slices of bytes. -/
namespace Go.Proofs.Ytfkkbjbgjmaciaa
open Go.ChangeShapes Go.WideShapes Go.ChangeAt Go.RowKit Go.Joins Go.Deep

namespace Opens
section
variable {H : Type} {enc : TypeId × Value → H} {P : Program} {w : World} {base : Nat} {spare : Nat → Bool} {held : Bool}
theorem bytes_ {r : Reach} {b0 : Nat} {t e : TypeId} {v : Value} {d : DataW H} {p : List MemPlace} (hs : P.underlying t = some (.slice e)) (he : P.underlying e = some (.int .u8)) (hC : P.cellsOf e = 1)
    (hv : Value.okWide P w r b0 t v) (h : DataW.Trod enc P w base spare held t v d p) :
    ∃ (A : Option Addr) (n c : Nat), v = .slice A n c ∧ CodeB w w.heap.size A n ∧ n ≤ maxLen := by
  obtain ⟨A, n, c, rfl⟩ := okWide_slice hs hv
  obtain ⟨fuel, hf⟩ := h
  rcases open_ints hs he hC hf with ⟨hcs, _⟩ | ⟨a, len, cap, zs, hcs, _, hl, hm, hz, _, hcell, hwz⟩
  · simp [Value.cells] at hcs
    obtain ⟨rfl, rfl, rfl⟩ := hcs
    exact ⟨none, 0, 0, rfl, fun h => by omega, by simp [maxLen]⟩
  · simp [Value.cells] at hcs
    obtain ⟨rfl, rfl, rfl⟩ := hcs
    have hle : n ≤ zs.length := by rw [hz]; split <;> omega
    refine ⟨some a, n, c, rfl, fun h0 => ?_, by omega⟩
    have hc0 := hcell 0 (by omega)
    obtain ⟨b, off, spot⟩ := a
    have hsp : spot = none := by simpa [Addr.add] using World.cell?_spot hc0
    subst hsp
    refine ⟨b, off, rfl, ?_, fun j hj => ?_⟩
    · have := World.block_lt_of_cell? w _ hc0
      simpa [Addr.add] using this
    · have hcj := hcell j (by omega)
      rw [Addr.add_lit] at hcj
      have hj2 : j < zs.length := by omega
      refine ⟨zs.getD j 0, bounds_u8 (hwz _ ?_), hcj⟩
      rw [List.getD_eq_getElem?_getD, List.getElem?_eq_getElem hj2]
      exact List.getElem_mem hj2
end
end Opens
end Go.Proofs.Ytfkkbjbgjmaciaa

/- CurP: The cursor's choices: a number below another, one of a list; a list of terms. -/
namespace Go.Proofs.Ytfkkbjbgjmaciaa
open Go.RowKit

/-- behind what has turned block g and new ones -/
theorem grownC_new {w w1 w2 : World} {g : Nat} {row : Option Nat} (h : w.grownBy w1 (some g)) (hg : w1.grownBy w2 row) (hr : ∀ k, row = some k → w.heap.size ≤ k) : w.grownBy w2 (some g) :=
  ⟨hg.os.trans h.os, hg.tape.trans h.tape, hg.output.trans h.output, Nat.le_trans h.size hg.size, fun k hk hne => (hg.block k (Nat.lt_of_lt_of_le hk h.size) (fun e => by have := hr k e.symm; omega)).trans (h.block k hk hne)⟩
theorem grownC_below {w w1 w2 : World} {g : Nat} (h : w.grownBy w1 (some g)) (hb : Below w1.heap.size w1 w2) : w.grownBy w2 (some g) :=
  ⟨hb.os.trans h.os, hb.tape.trans h.tape, hb.output.trans h.output, Nat.le_trans h.size hb.size, fun k hk hne => (hb.block k (Nat.lt_of_lt_of_le hk h.size)).trans (h.block k hk hne)⟩
/-- a choice: what it tells, the cursor behind it -/
def Chosen (w : World) (g N : Nat) (P : Int → Prop) (e : Ending) (w' : World) : Prop := ∃ r : Int, e = .returned (.int .i64 r) ∧ P r ∧ Cur w' g N ∧ w.grownBy w' (some g)

set_option maxRecDepth 100000 in
set_option maxHeartbeats 1600000 in
theorem spec_pick (g N : Nat) (m : Int) (w : World) (h : Cur w g N) (hN : N ≤ 100000000000) (hm : m ≤ 1000000) :
    Calls Try.prog 107 #[.pointer (some ⟨g, 0, none⟩), .int .i64 m] w (Chosen w g (N + 2) fun r => 0 ≤ r ∧ (r = 0 ∨ r < m)) := by
  by_cases h1 : m ≤ 1
  · have HE : Hid (Chosen w g (N + 2) (fun r => 0 ≤ r ∧ (r = 0 ∨ r < m)) (.returned (.int .i64 0)) w) := Lib.hid ⟨0, rfl, ⟨by omega, .inl rfl⟩, h.more (by omega), World.grownBy.refl w _⟩
    clear h
    go_enter Try.func107, Try.ntmps107
    go_wp2
    go_ret
    exact HE.out
  · have HN := Lib.hid (spec_next g N w h (by omega))
    have HE : Hid (∀ (r : Int) (w' : World), 0 ≤ r → Cur w' g (N + 2) → w.grownBy w' (some g) → Chosen w g (N + 2) (fun r => 0 ≤ r ∧ (r = 0 ∨ r < m)) (.returned (.int .i64 (r % m))) w') := Lib.hid fun r w' hr hc hg => ⟨r % m, rfl, ⟨Int.emod_nonneg _ (by omega), .inr (Int.emod_lt_of_pos _ (by omega))⟩, hc, hg⟩
    have m0 : m ≠ 0 := by omega
    clear h
    go_enter Try.func107, Try.ntmps107
    go_wp2_with fail
    refine HN.out.mono ?_
    rintro e w1 ⟨r, rfl, ⟨r0, r1⟩, hc, hg⟩
    clear HN
    by_cases h2 : 200 < m
    · have HN2 := Lib.hid (spec_next g (N + 1) w1 hc (by omega))
      have Hg := Lib.hid hg
      clear hc hg
      go_wp2_with fail
      refine HN2.out.mono ?_
      rintro e w2 ⟨r2, rfl, ⟨r20, r21⟩, hc2, hg2⟩
      have x0 : 0 ≤ r * 256 + r2 := by omega
      have hlt := Int.emod_lt_of_pos (r * 256 + r2) (show 0 < m by omega)
      have hge := Int.emod_nonneg (r * 256 + r2) m0
      have HF := Lib.hid (HE.out _ _ x0 hc2 (Hg.out.trans hg2))
      have hw : IntKind.i64.wrap ((r * 256 + r2) % m) = (r * 256 + r2) % m := IntWalk.i64_in _ (by omega)
      clear hc2 hg2 HN2 Hg HE
      go_wp2
      go_ret
      exact HF.out
    · have HF := Lib.hid (HE.out _ _ r0 (hc.more (by omega)) hg)
      have hlt := Int.emod_lt_of_pos r (show 0 < m by omega)
      have hge := Int.emod_nonneg r m0
      have hw : IntKind.i64.wrap (r % m) = r % m := IntWalk.i64_in _ (by omega)
      clear hc hg HE
      go_wp2
      go_ret
      exact HF.out
theorem spec_one (g N : Nat) (m : Int) (w : World) (h : Cur w g N) (hN : N ≤ 100000000000) (hm : m ≤ 1000000) :
    Calls Try.prog 115 #[.pointer (some ⟨g, 0, none⟩), .int .i64 m] w fun e w' => ∃ b : Bool, e = .returned (.bool b) ∧ Cur w' g (N + 2) ∧ w.grownBy w' (some g) := by
  have HN := Lib.hid (spec_pick g N m w h hN hm)
  clear h
  go_enter Try.func115, Try.ntmps115
  go_wp2_with fail
  refine HN.out.mono ?_
  rintro e w1 ⟨r, rfl, _, hc, hg⟩
  have HC := Lib.hid hc
  have HG := Lib.hid hg
  clear hc hg HN
  go_wp2
  go_ret
  exact ⟨_, rfl, HC.out, HG.out⟩
set_option maxRecDepth 100000 in
theorem spec_among (g N b n c : Nat) (l : List Int) (w : World) (h : Cur w g N) (hN : N ≤ 100000000000) (hn : l.length = n) (hb : b < w.heap.size) (hbg : b ≠ g) (hcell : ∀ j, j < n → w.cell? ⟨b, j, none⟩ = some (.int .i64 (l.getD j 0))) (h0 : 0 < n) (hl : n ≤ 1000) :
    Calls Try.prog 105 #[.pointer (some ⟨g, 0, none⟩), .slice (some ⟨b, 0, none⟩) n c] w (Chosen w g (N + 2) fun r => r ∈ l) := by
  have HN := Lib.hid (spec_pick g N n w h hN (by omega))
  have HS := Lib.hid hcell
  have Hn := Lib.hid hn
  clear h hcell hn
  go_enter Try.func105, Try.ntmps105
  go_wp2_with fail
  refine HN.out.mono ?_
  rintro e w1 ⟨r, rfl, ⟨r0, r1⟩, hc, hg⟩
  obtain ⟨j, rfl⟩ := Int.eq_ofNat_of_zero_le r0
  have hj : j < n := by omega
  have hji : (j : Int) < (n : Int) := by omega
  have g0 : w1.cell? ⟨b, j, none⟩ = some (.int .i64 (l.getD j 0)) := by
    rw [← HS.out j hj]
    exact World.cell?_of_block (w := w) (hg.block b hb (fun e => hbg (by injection e)))
  have HE : Hid (Chosen w g (N + 2) (fun r => r ∈ l) (.returned (.int .i64 (l.getD j 0))) w1) := Lib.hid ⟨_, rfl, by rw [List.getD_eq_getElem?_getD, List.getElem?_eq_getElem (by rw [Hn.out]; exact hj)]; exact List.getElem_mem _, hc, hg⟩
  clear hc hg HN HS r1 Hn
  generalize l.getD j 0 = x at *
  go_wp2
  go_ret
  exact HE.out

/-- the length in a slice's value -/
def lenW : Value → Nat
  | .slice _ m _ => m
  | _ => 0
/-- a list that grows while choices are made -/
def Grows (w : World) (g N : Nat) (v : Value) (k : Nat) (wr : World) : Prop :=
  ∃ (A : Option Addr) (c : Nat) (l : List Int), v = .slice A l.length c ∧ l.length = k ∧ wr.ownsRow w.heap.size 3 1 (.slice A l.length c) l.length (ics l) ∧ Cur wr g N ∧ w.grownBy wr (some g)
theorem Grows.push {w wr w3 : World} {g N N' : Nat} {A : Option Addr} {c : Nat} {l : List Int} (hg : w.grownBy wr (some g)) (hc : Cur wr g N') (hN : N' ≤ N) (hlt : g < w.heap.size) (x : Int)
    (ho : wr.ownsRow w.heap.size 3 1 (.slice A l.length c) l.length (ics l)) {A3 : Option Addr} {c3 : Nat} (o3 : w3.ownsRow w.heap.size 3 1 (.slice A3 (l.length + 1) c3) (l.length + 1) (ics (l ++ [x]))) (g3 : (wr.alloc (.cells #[.int .i64 x] 3)).grownBy w3 (Value.slice A l.length c).ownBlock) :
    Grows w g N (.slice A3 (l.length + 1) c3) (l.length + 1) w3 := by
  have hr : ∀ k, (Value.slice A l.length c).ownBlock = some k → w.heap.size ≤ k := fun k hk => (ho.lt k hk).1
  have ha : Below wr.heap.size wr (wr.alloc (.cells #[.int .i64 x] 3)) := below_box (Below.refl _ _) (Nat.le_refl _) _
  exact ⟨A3, c3, l ++ [x], by simp, by simp, by simpa using o3, ((hc.kept ha).far g3 (fun k hk => Nat.lt_of_lt_of_le hlt (hr k hk))).more hN, grownC_new (grownC_below hg ha) g3 hr⟩

/-- a list drawn: new, at most so long -/
def Drawn (w : World) (g N M : Nat) (e : Ending) (w' : World) : Prop :=
  ∃ (A : Option Addr) (c : Nat) (l : List Int), e = .returned (.slice A l.length c) ∧ l.length ≤ M ∧ w'.ownsRow w.heap.size 3 1 (.slice A l.length c) l.length (ics l) ∧ Cur w' g N ∧ w.grownBy w' (some g)
theorem Grows.drawn {w wr : World} {g N N' M k : Nat} {A : Option Addr} {n c : Nat} (h : Grows w g N (.slice A n c) k wr) (hk : k ≤ M) (hN : N ≤ N') : Drawn w g N' M (.returned (.slice A n c)) wr := by
  obtain ⟨A', c', l, e, hl, ho, hc, hg⟩ := h
  cases e
  exact ⟨A, c, l, rfl, by omega, ho, hc.more hN, hg⟩

set_option maxRecDepth 100000 in
set_option maxHeartbeats 12800000 in
theorem spec_terms (g N : Nat) (lo hi : Int) (w : World) (h : Cur w g N) (hN : N ≤ 10000000000) (h1 : -100 ≤ lo) (h2 : hi ≤ 100) (h3 : lo ≤ hi) :
    Calls Try.prog 113 #[.pointer (some ⟨g, 0, none⟩), .int .i64 lo, .int .i64 hi] w (Drawn w g (N + 100) 11) := by
  have HN := Lib.hid (spec_pick g N 8 w h (by omega) (by omega))
  have hgl := h.lt
  have hw1 : IntKind.i64.wrap (hi - lo) = hi - lo := IntWalk.i64_in _ (by omega)
  have hw2 : IntKind.i64.wrap (hi - lo + 1) = hi - lo + 1 := IntWalk.i64_in _ (by omega)
  clear h
  go_enter Try.func113, Try.ntmps113
  go_wp2_with fail
  refine HN.out.mono ?_
  rintro e w1 ⟨r, rfl, ⟨r0, r1⟩, hc, hg⟩
  obtain ⟨p, rfl⟩ := Int.eq_ofNat_of_zero_le r0
  have p7 : p ≤ 7 := by omega
  have HG : Hid (Grows w g (N + 2) (.slice none 0 0) 0 w1) := Lib.hid ⟨none, 0, [], rfl, rfl, World.ownsRow_nil _ _ _ _, hc, hg⟩
  clear hc hg HN r0 r1
  go_wp2
  go_loopw [7, 8] (fun v k wr => ∃ d q : Nat, d + q = p ∧ k = .int .i64 q ∧ Grows w g (N + 2 + 2 * d) v d wr) (fun _ k _ => (intOf k).toNat)
  case atStart => exact ⟨0, p, by omega, rfl, HG.out⟩
  case round =>
    clear HG
    obtain ⟨d, q, hdq, rfl, A, c, l, rfl, hl, ho, hc, hg⟩ := hrel
    subst hl
    by_cases hq : 0 < q
    · have q0 : (0 : Int) < (q : Int) := by omega
      have q7 : (q : Int) ≤ 7 := by omega
      have HP := Lib.hid (spec_pick g (N + 2 + 2 * l.length) (hi - lo + 1) wr hc (by omega) (by omega))
      have Ho := Lib.hid ho
      have Hg := Lib.hid hg
      clear hc ho hg
      go_wp2_with fail
      refine HP.out.mono ?_
      rintro e w2 ⟨x, rfl, ⟨x0, x1⟩, hc2, hg2⟩
      have o2 := own_far Ho.out hg2 (fun k hk e => by have := (Ho.out.lt k hk).1; injection e with e; omega)
      have g2 := Hg.out.trans hg2
      have hwx : IntKind.i64.wrap (lo + x) = lo + x := IntWalk.i64_in _ (by omega)
      have own2 := o2.alloc (.cells #[.int .i64 (lo + x)] 3)
      have Hc2 := Lib.hid hc2
      have HG2 := Lib.hid g2
      have HO2 := Lib.hid o2
      have hz := g2.size
      clear hc2 hg2 HP Ho Hg g2 o2
      go_wp2_with (at_builtin; refine append1I _ rfl _ _ rfl w.heap.size (.slice A l.length c) l rfl own2 w2.heap.size (lo + x) rfl ?c1 ?c2 ?c3 ?_; (case c1 => simp [go_sem]); (case c2 => omega); (case c3 => simp; omega); intro A3 c3 w3 own3 hg3; (have hG := Grows.push (N := N + 2 + 2 * (l.length + 1)) HG2.out Hc2.out (by omega) hgl (lo + x) HO2.out own3 hg3))
      have HG := Lib.hid hG
      clear hG own3 hg3 own2 HO2 HG2 Hc2
      go_wp2
      go_roundw
      case rel => exact ⟨l.length + 1, q - 1, by omega, by go_num, HG.out⟩
      case measure => simp [intOf]; omega
    · have q0 : ¬ (0 : Int) < (q : Int) := by omega
      have HP := Lib.hid (spec_pick g (N + 2 + 2 * l.length) 14 wr hc (by omega) (by omega))
      have Ho := Lib.hid ho
      have Hg := Lib.hid hg
      have hl7 : l.length ≤ 7 := by omega
      clear hc ho hg hw1 hw2 hdq
      go_wp2_with fail
      refine HP.out.mono ?_
      rintro e w2 ⟨x, rfl, ⟨x0, x1⟩, hc2, hg2⟩
      have o2 := own_far Ho.out hg2 (fun k hk e => by have := (Ho.out.lt k hk).1; injection e with e; omega)
      have g2 := Hg.out.trans hg2
      have hz := g2.size
      clear hg2 HP Ho Hg
      by_cases hx0 : x = 0
      · subst hx0
        have hba := (Below.refl w2.heap.size w2).alloc (Nat.le_refl _) (.cells #[.int .i64 30, .int .i64 31, .int .i64 (-30), .int .i64 (-9223372036854775808)] 3)
        have HA := Lib.hid (spec_among g (N + 2 + 2 * l.length + 2) w2.heap.size 4 4 [30, 31, -30, -9223372036854775808] _ (hc2.kept hba) (by omega) rfl (by simp) (by have := hc2.lt; omega) (fun j hj => by
          match j, hj with
          | 0, _ => simp [go_sem]
          | 1, _ => simp [go_sem]
          | 2, _ => simp [go_sem]
          | 3, _ => simp [go_sem]) (by omega) (by omega))
        have o3 := own_kept o2 hba
        have g3 := grownC_below g2 hba
        have Ho3 := Lib.hid o3
        have Hg3 := Lib.hid g3
        clear o2 g2 hc2 hba o3 g3
        go_wp2_with fail
        refine HA.out.mono ?_
        rintro e w4 ⟨y, rfl, _, hc4, hg4⟩
        have o4 := own_far Ho3.out hg4 (fun k hk e => by have := (Ho3.out.lt k hk).1; injection e with e; omega)
        have g4 := Hg3.out.trans hg4
        have own2 := o4.alloc (.cells #[.int .i64 y] 3)
        have Hc4 := Lib.hid hc4
        have HG4 := Lib.hid g4
        have HO4 := Lib.hid o4
        have hz4 := g4.size
        clear hc4 hg4 HA Ho3 Hg3 g4 o4
        go_wp2_with (at_builtin; refine append1I _ rfl _ _ rfl w.heap.size (.slice A l.length c) l rfl own2 w4.heap.size y rfl ?c1 ?c2 ?c3 ?_; (case c1 => simp [go_sem]); (case c2 => omega); (case c3 => simp; omega); intro A3 c3 w3 own3 hg3; (have hG := Grows.push (N := N + 100) HG4.out Hc4.out (by omega) hgl y HO4.out own3 hg3))
        have HD := Lib.hid (hG.drawn (M := 11) (by omega) (Nat.le_refl _))
        clear hG own3 hg3 own2 HO4 HG4 Hc4
        go_wp2
        go_ret
        exact HD.out
      · by_cases hx1 : x = 1
        · subst hx1
          have HG : Hid (Grows w g (N + 20 + 2 * l.length) (.slice A l.length c) l.length w2) := Lib.hid ⟨A, c, l, rfl, rfl, o2, hc2.more (by omega), g2⟩
          clear o2 hc2 g2 hz hx0 x0 x1
          go_wp2
          go_loopw [7] (fun v wr => ∃ d : Nat, d ≤ 11 ∧ Grows w g (N + 20 + 2 * d) v d wr) (fun v _ => 12 - lenW v)
          case atStart => exact ⟨l.length, by omega, HG.out⟩
          case round =>
            clear HG hl7 q0
            obtain ⟨d, hd, A, c, l, rfl, hl, ho, hc, hg⟩ := hrel
            subst hl
            have HP := Lib.hid (spec_pick g (N + 20 + 2 * l.length) 2 wr hc (by omega) (by omega))
            have Ho := Lib.hid ho
            have Hg := Lib.hid hg
            clear hc ho hg
            go_wp2_with fail
            refine HP.out.mono ?_
            rintro e w4 ⟨y, rfl, ⟨y0, y1⟩, hc4, hg4⟩
            have o4 := own_far Ho.out hg4 (fun k hk e => by have := (Ho.out.lt k hk).1; injection e with e; omega)
            have g4 := Hg.out.trans hg4
            have hz4 := g4.size
            clear hg4 HP Ho Hg
            by_cases hlt : (l.length : Int) < 10 + y
            · have own2 := o4.alloc (.cells #[.int .i64 2] 3)
              have Hc4 := Lib.hid hc4
              have HG4 := Lib.hid g4
              have HO4 := Lib.hid o4
              clear hc4 g4 o4
              go_wp2_with (at_builtin; refine append1I _ rfl _ _ rfl w.heap.size (.slice A l.length c) l rfl own2 w4.heap.size 2 rfl ?c1 ?c2 ?c3 ?_; (case c1 => simp [go_sem]); (case c2 => omega); (case c3 => simp; omega); intro A3 c3 w3 own3 hg3; (have hG := Grows.push (N := N + 20 + 2 * (l.length + 1)) HG4.out Hc4.out (by omega) hgl 2 HO4.out own3 hg3))
              have HG := Lib.hid hG
              clear hG own3 hg3 own2 HO4 HG4 Hc4
              go_wp2
              go_roundw
              case rel => exact ⟨l.length + 1, by omega, HG.out⟩
              case measure => simp [lenW]; omega
            · have HD : Hid (Drawn w g (N + 100) 11 (.returned (.slice A l.length c)) w4) := Lib.hid ⟨A, c, l, rfl, hd, o4, hc4.more (by omega), g4⟩
              clear o4 hc4 g4
              go_wp2
              go_ret
              exact HD.out
        · by_cases hx2 : x = 2
          · subst hx2
            have HG : Hid (Grows w g (N + 50) (.slice A l.length c) l.length w2) := Lib.hid ⟨A, c, l, rfl, rfl, o2, hc2.more (by omega), g2⟩
            clear o2 hc2 g2 hz hx0 hx1 x0 x1
            go_wp2
            go_loopw [7] (fun v wr => ∃ d : Nat, d ≤ 11 ∧ Grows w g (N + 50) v d wr) (fun v _ => 12 - lenW v)
            case atStart => exact ⟨l.length, by omega, HG.out⟩
            case round =>
              clear HG hl7 q0
              obtain ⟨d, hd, A, c, l, rfl, hl, ho, hc, hg⟩ := hrel
              subst hl
              have hz4 := hg.size
              by_cases hlt : (l.length : Int) < 10
              · have own2 := ho.alloc (.cells #[.int .i64 30] 3)
                have Hc4 := Lib.hid hc
                have HG4 := Lib.hid hg
                have HO4 := Lib.hid ho
                clear hc hg ho
                go_wp2_with (at_builtin; refine append1I _ rfl _ _ rfl w.heap.size (.slice A l.length c) l rfl own2 wr.heap.size 30 rfl ?c1 ?c2 ?c3 ?_; (case c1 => simp [go_sem]); (case c2 => omega); (case c3 => simp; omega); intro A3 c3 w3 own3 hg3; (have hG := Grows.push (N := N + 50) HG4.out Hc4.out (by omega) hgl 30 HO4.out own3 hg3))
                have HG := Lib.hid hG
                clear hG own3 hg3 own2 HO4 HG4 Hc4
                go_wp2
                go_roundw
                case rel => exact ⟨l.length + 1, by omega, HG.out⟩
                case measure => simp [lenW]; omega
              · have HD : Hid (Drawn w g (N + 100) 11 (.returned (.slice A l.length c)) wr) := Lib.hid ⟨A, c, l, rfl, hd, ho, hc.more (by omega), hg⟩
                clear ho hc hg
                go_wp2
                go_ret
                exact HD.out
          · have HD : Hid (Drawn w g (N + 100) 11 (.returned (.slice A l.length c)) w2) := Lib.hid ⟨A, c, l, rfl, by omega, o2, hc2.more (by omega), g2⟩
            have n0 : (x == 0) = false := by simpa using hx0
            have n1 : (x == 1) = false := by simpa using hx1
            have n2 : (x == 2) = false := by simpa using hx2
            clear o2 hc2 g2 hx0 hx1 hx2 x1
            go_wp2
            go_ret
            exact HD.out
end Go.Proofs.Ytfkkbjbgjmaciaa

/- CurQ: The cursor's quiddities. -/
namespace Go.Proofs.Ytfkkbjbgjmaciaa
open Go.RowKit

/-- a quiddity of n numbers drawn -/
def DrawnQ (w : World) (g N n : Nat) (e : Ending) (w' : World) : Prop :=
  ∃ (A : Option Addr) (c : Nat) (q : List Int), e = .returned (.slice A n c) ∧ q.length = n ∧ isQ q = true ∧ n ≤ c ∧ w'.ownsRow w.heap.size 3 1 (.slice A n c) n (ics q) ∧ Cur w' g N ∧ w.grownBy w' (some g)
/-- at the head of the loop -/
def QGrows (w : World) (g N m : Nat) (v : Value) (wr : World) : Prop :=
  ∃ (A : Option Addr) (c : Nat) (q : List Int), v = .slice A m c ∧ q.length = m ∧ isQ q = true ∧ m ≤ c ∧ wr.ownsRow w.heap.size 3 1 (.slice A m c) m (ics q) ∧ Cur wr g N ∧ w.grownBy wr (some g)

set_option maxRecDepth 100000 in
set_option maxHeartbeats 12800000 in
theorem spec_sureQuiddity (g N n : Nat) (w : World) (h : Cur w g N) (hN : N ≤ 10000000000) (n3 : 3 ≤ n) (n12 : n ≤ 12) :
    Calls Try.prog 172 #[.pointer (some ⟨g, 0, none⟩), .int .i64 n] w (DrawnQ w g (N + 30) n) := by
  have hgl := h.lt
  have hba : Below w.heap.size w (w.alloc (.cells #[.int .i64 1, .int .i64 1, .int .i64 1] 3)) := below_box (Below.refl _ _) (Nat.le_refl _) _
  have HG : Hid (QGrows w g (N + 2 * 3) 3 (.slice (some ⟨w.heap.size, 0, none⟩) 3 3) (w.alloc (.cells #[.int .i64 1, .int .i64 1, .int .i64 1] 3))) :=
    Lib.hid ⟨_, 3, [1, 1, 1], rfl, rfl, tri_isQ, Nat.le_refl _, ⟨by simp [ics], .inr ⟨w.heap.size, 3, #[.int .i64 1, .int .i64 1, .int .i64 1], rfl, Nat.le_refl _, heap_alloc_new w _, by omega, by decide, by simp, by simp [ics]⟩⟩, (h.kept hba).more (by omega), grownC_below (World.grownBy.refl w _) hba⟩
  have nn : (n : Int) ≤ 12 := by omega
  clear h hba
  go_enter Try.func172, Try.ntmps172
  go_wp2
  go_loopw [5, 6, 7] (fun v _ _ wr => ∃ m : Nat, 3 ≤ m ∧ m ≤ n ∧ QGrows w g (N + 2 * m) m v wr) (fun v _ _ _ => n - lenW v)
  case atStart => exact ⟨3, by omega, n3, HG.out⟩
  case round =>
    clear HG
    obtain ⟨m, m3, mn, A, c, q, rfl, hqm, hq, mc, ho, hc, hg⟩ := hrel
    by_cases hlt : m < n
    · have i0 : (m : Int) < (n : Int) := by omega
      have HP := Lib.hid (spec_pick g (N + 2 * m) m wr hc (by omega) (by omega))
      have Ho := Lib.hid ho
      have Hg := Lib.hid hg
      have Hq := Lib.hid hq
      have Hqm := Lib.hid hqm
      clear hc ho hg hq hqm
      go_wp2_with fail
      refine HP.out.mono ?_
      rintro e wp ⟨x, rfl, ⟨x0, x1⟩, hc2, hg2⟩
      obtain ⟨t, rfl⟩ := Int.eq_ofNat_of_zero_le x0
      have ht : t < m := by omega
      have o2 := own_far Ho.out hg2 (fun k hk e => by have := (Ho.out.lt k hk).1; injection e with e; omega)
      have g2 := Hg.out.trans hg2
      obtain ⟨gq, cap0, hv, hgq, hgql⟩ := o2.form (by omega)
      cases hv
      have Hs := Lib.hid (SlI.of_own o2)
      have Hc2 := Lib.hid hc2
      have HG2 := Lib.hid g2
      have hz := g2.size
      clear hc2 hg2 HP Ho Hg g2 o2 x1
      have Hget : Hid (∀ i, i < q.length → 1 ≤ q.getD i 0 ∧ q.getD i 0 ≤ 12) := Lib.hid fun i hi => by have h1 := isQ_get Hq.out i hi; have h2 := isQ_len Hq.out; omega
      have t1 : t + 1 ≤ m := by omega
      have Hlt : Hid ((q.take (t + 1)).length = t + 1) := Lib.hid (by rw [List.length_take, Hqm.out]; omega)
      have Hld : Hid ((q.drop (t + 1)).length = m - (t + 1)) := Lib.hid (by rw [List.length_drop, Hqm.out])
      have z0 : (0 : Int) ≤ (t : Int) + 1 := by omega
      have z1 : (t : Int) + 1 ≤ (c : Int) := by omega
      have z2 : (m : Int) ≤ (c : Int) := by omega
      have hpn : ((t : Int) + 1).toNat = t + 1 := by omega
      have hpn1 : (1 + (t : Int)).toNat = t + 1 := by omega
      have hcm : (1 : Int) + (t : Int) = (t : Int) + 1 := by omega
      have HE : Hid (∀ w6 A6 c6, w6.ownsRow wp.heap.size 3 1 (.slice A6 (m + 1) c6) (m + 1) (ics (glueL q t)) → Below wp.heap.size wp w6 → QGrows w g (N + 2 * (m + 1)) (m + 1) (.slice A6 (m + 1) c6) w6) := Lib.hid fun w6 A6 c6 o6 b6 =>
        ⟨A6, c6, glueL q t, rfl, by rw [glueL_length q t (by rw [Hqm.out]; exact t1), Hqm.out], glue_isQ Hq.out (by rw [Hqm.out]; omega) (by rw [Hqm.out]; exact ht), own_capI o6, o6.mono hz, (Hc2.out.kept b6).more (by omega), grownC_below HG2.out b6⟩
      go_wp2_with fail
      refine (spec_l1Own_at (some ⟨gq, 0, none⟩) (t + 1) c wp.heap.size (q.take (t + 1)) _ Hlt.out (Hs.out.take (t + 1)) (Nat.le_refl _) (by omega)).mono ?_
      rintro e w2 ⟨A2, c2, rfl, o2, b2⟩
      have own2 := o2.alloc (.cells #[.int .i64 1] 3)
      have hsz2 := b2.size
      have Hb2 := Lib.hid (b2.alloc hsz2 (.cells #[.int .i64 1] 3))
      have Hlw : Hid (∀ k, (Value.slice A2 (t + 1) c2).ownBlock = some k → wp.heap.size ≤ k) := Lib.hid fun k hk => (o2.lt k hk).1
      have t6 : t + 1 ≤ 1000000 := by omega
      have Hl1 : Hid ((q.take (t + 1) ++ [(1 : Int)]).length = t + 1 + 1) := Lib.hid (by rw [List.length_append, Hlt.out]; rfl)
      have HN1 : Hid (m + 1 = t + 1 + 1 + (m - (t + 1))) := Lib.hid (by omega)
      have HNl : Hid (gluP q (t + 1) = q.take (t + 1) ++ [1] ++ q.drop (t + 1)) := Lib.hid rfl
      have Hgl : Hid ((gluP q (t + 1)).length = m + 1) := Lib.hid (by rw [gluP_length q _ (by rw [Hqm.out]; exact t1), Hqm.out])
      have Hbd : Hid (∀ j, j < (gluP q (t + 1)).length → 1 ≤ (gluP q (t + 1)).getD j 0 ∧ (gluP q (t + 1)).getD j 0 ≤ 12) := Lib.hid fun j hj => gluP_bd Hget.out j hj
      obtain ⟨b, hbdef⟩ : ∃ b, b = (t + 2) % (m + 1) := ⟨_, rfl⟩
      have hbn : b < m + 1 := by rw [hbdef]; exact Nat.mod_lt _ (by omega)
      have hrem : ((t : Int) + 1 + 1) % ((m : Int) + 1) = (b : Int) := by
        rw [hbdef, show (t : Int) + 1 + 1 = ((t + 2 : Nat) : Int) by omega, show (m : Int) + 1 = ((m + 1 : Nat) : Int) by omega]
        rfl
      have HGL : Hid (glueL q t = gInc (gInc (gluP q (t + 1)) t) b) := Lib.hid (by unfold glueL; rw [Hqm.out, hbdef])
      have t0 : (0 : Int) ≤ (t : Int) := by omega
      have t2 : (t : Int) < (m : Int) + 1 := by omega
      have bb0 : (0 : Int) ≤ (b : Int) := by omega
      have bb1 : (b : Int) < (m : Int) + 1 := by omega
      have t7 : t + 1 + 1 ≤ 1000000 := by omega
      have t8 : m - (t + 1) ≤ 1000000 := by omega
      have t9 : t < m + 1 := by omega
      have hm1 : (m : Int) + 1 ≠ 0 := by omega
      have HsB : Hid (∀ w3, Below wp.heap.size wp w3 → SlI w3 wp.heap.size (some ⟨gq, 0, none⟩) q) := Lib.hid fun w3 h3 => Hs.out.below h3
      clear o2 b2 z0 z1 hbdef hpn1 hcm
      rcases Nat.lt_or_ge (t + 1) c with kc | kc
      · have kc2 : ¬ c = t + 1 := by omega
        go_wp2_with (first
            | (at_builtin; refine append1In _ rfl (.tmp 21) (.tmp 22) rfl wp.heap.size (.slice A2 (t + 1) c2) (t + 1) (q.take (t + 1)) Hlt.out rfl own2 w2.heap.size 1 rfl ?c1 t6 Hb2.out.size ?_; (case c1 => simp [go_sem])
               intro A3 c3 w3 own3 hg3
               have Own3 := Lib.hid own3
               have Hb3 := Lib.hid (below_grown Hb2.out hg3 (Nat.le_refl _) (fun k hk => Hlw.out k hk))
               clear own2 own3 hg3)
            | (at_builtin; refine wpList_appendNI _ rfl (.tmp 24) (.tmp 27) rfl wp.heap.size (.slice A3 (t + 1 + 1) c3) (t + 1 + 1) (q.take (t + 1) ++ [1]) Hl1.out rfl Own3.out _ (m - (t + 1)) _ (q.drop (t + 1)) wp.heap.size (m + 1) HN1.out rfl Hld.out ?_ t7 t8 Hb3.out.size ?_
               · first
                 | exact (HsB.out _ Hb3.out).cutAt (t + 1)
                 | (have hh := (HsB.out _ Hb3.out).cutAt (t + 1); simpa using hh)
                 | exact fun h0 => absurd h0 (by rw [Hld.out]; omega)
               intro A4 c4 w4 own4 hg4
               have hb4 := below_grown Hb3.out hg4 (Nat.le_refl _) (fun k hk => (Own3.out.lt k hk).1)
               obtain ⟨gl, rfl, ⟨ca, fa⟩, ⟨cb, fb⟩, o6, g6, hgl6⟩ := glue_cells (L := gluP q (t + 1)) own4 Hgl.out t b t9 hbn
               have hb6 := below_grown hb4 g6 (Nat.le_refl _) (fun k hk => by injection hk with hk; omega)
               obtain ⟨x1, x2⟩ := Hbd.out t (by rw [Hgl.out]; exact t9)
               obtain ⟨y1, y2⟩ := gInc_bd Hbd.out t b (by rw [Hgl.out]; exact hbn)
               have hF := HE.out _ (some ⟨gl, 0, none⟩) c4 (by rw [HGL.out]; exact o6) hb6
               have HF := Lib.hid hF
               clear hF o6 g6 hb6 hb4 own4 hg4 Own3 hgl6
               generalize (gInc (gluP q (t + 1)) t).getD b 0 = y at *
               generalize (gluP q (t + 1)).getD t 0 = x at *))
        go_roundw
        case rel => exact ⟨m + 1, by omega, by omega, HF.out⟩
        case measure => simp [lenW]; omega
      · have Hnl : Hid (∀ w3, SlI w3 wp.heap.size (some ⟨gq, 0, none⟩) (q.drop (t + 1))) := Lib.hid fun w3 h0 => absurd h0 (by rw [Hld.out]; omega)
        have HN0 : Hid (m + 1 = t + 1 + 1 + 0) := Lib.hid (by omega)
        have Hld0 : Hid ((q.drop (t + 1)).length = 0) := Lib.hid (by rw [Hld.out]; omega)
        have t80 : 0 ≤ 1000000 := by omega
        obtain rfl : c = t + 1 := by omega
        go_wp2_with (first
            | (at_builtin; refine append1In _ rfl (.tmp 21) (.tmp 22) rfl wp.heap.size (.slice A2 (t + 1) c2) (t + 1) (q.take (t + 1)) Hlt.out rfl own2 w2.heap.size 1 rfl ?c1 t6 Hb2.out.size ?_; (case c1 => simp [go_sem])
               intro A3 c3 w3 own3 hg3
               have Own3 := Lib.hid own3
               have Hb3 := Lib.hid (below_grown Hb2.out hg3 (Nat.le_refl _) (fun k hk => Hlw.out k hk))
               clear own2 own3 hg3)
            | (at_builtin; refine wpList_appendNI _ rfl (.tmp 24) (.tmp 27) rfl wp.heap.size (.slice A3 (t + 1 + 1) c3) (t + 1 + 1) (q.take (t + 1) ++ [1]) Hl1.out rfl Own3.out _ 0 _ (q.drop (t + 1)) wp.heap.size (m + 1) HN0.out rfl Hld0.out ?_ t7 t80 Hb3.out.size ?_
               · exact Hnl.out _
               intro A4 c4 w4 own4 hg4
               have hb4 := below_grown Hb3.out hg4 (Nat.le_refl _) (fun k hk => (Own3.out.lt k hk).1)
               obtain ⟨gl, rfl, ⟨ca, fa⟩, ⟨cb, fb⟩, o6, g6, hgl6⟩ := glue_cells (L := gluP q (t + 1)) own4 Hgl.out t b t9 hbn
               have hb6 := below_grown hb4 g6 (Nat.le_refl _) (fun k hk => by injection hk with hk; omega)
               obtain ⟨x1, x2⟩ := Hbd.out t (by rw [Hgl.out]; exact t9)
               obtain ⟨y1, y2⟩ := gInc_bd Hbd.out t b (by rw [Hgl.out]; exact hbn)
               have hF := HE.out _ (some ⟨gl, 0, none⟩) c4 (by rw [HGL.out]; exact o6) hb6
               have HF := Lib.hid hF
               clear hF o6 g6 hb6 hb4 own4 hg4 Own3 hgl6
               generalize (gInc (gluP q (t + 1)) t).getD b 0 = y at *
               generalize (gluP q (t + 1)).getD t 0 = x at *))
        go_roundw
        case rel => exact ⟨m + 1, by omega, by omega, HF.out⟩
        case measure => simp [lenW]; omega
    · obtain rfl : m = n := by omega
      have HD : Hid (DrawnQ w g (N + 30) m (.returned (.slice A m c)) wr) := Lib.hid ⟨A, c, q, rfl, hqm, hq, mc, ho, hc.more (by omega), hg⟩
      clear ho hc hg hq hqm
      go_wp2
      go_ret
      exact HD.out
end Go.Proofs.Ytfkkbjbgjmaciaa

/- CurR: The cursor's quiddities, at times something else; the draws of chapter 3. -/
namespace Go.Proofs.Ytfkkbjbgjmaciaa
open Go.RowKit

/-- a list drawn that is read alone -/
def DrawnS (w : World) (g N M : Nat) (e : Ending) (w' : World) : Prop :=
  ∃ (A : Option Addr) (c : Nat) (l : List Int), e = .returned (.slice A l.length c) ∧ l.length ≤ M ∧ l.length ≤ c ∧ SlI w' w'.heap.size A l ∧ Cur w' g N ∧ w.grownBy w' (some g) ∧ ∀ b off sp, A = some ⟨b, off, sp⟩ → w.heap.size ≤ b
/-- a list told by a draw: new memory -/
def GivS (w : World) (M : Nat) (e : Ending) (w' : World) : Prop :=
  ∃ (A : Option Addr) (c : Nat) (l : List Int), e = .returned (.slice A l.length c) ∧ l.length ≤ M ∧ l.length ≤ c ∧ SlI w' w'.heap.size A l ∧ Below w.heap.size w w'
theorem Drawn.s {w : World} {g N M : Nat} {e : Ending} {w' : World} (h : Drawn w g N M e w') : DrawnS w g N M e w' := by
  obtain ⟨A, c, l, h1, h2, h3, h4, h5⟩ := h
  exact ⟨A, c, l, h1, h2, own_capI h3, SlI.of_own h3, h4, h5, fun b off sp e => (h3.lt b (by rw [e]; rfl)).1⟩

set_option maxRecDepth 100000 in
set_option maxHeartbeats 12800000 in
theorem spec_quiddity (g N k : Nat) (w : World) (h : Cur w g N) (hN : N ≤ 1000000000) (k3 : 3 ≤ k) (k12 : k ≤ 12) :
    Calls Try.prog 106 #[.pointer (some ⟨g, 0, none⟩), .int .i64 k] w (DrawnS w g (N + 100) 12) := by
  have HP := Lib.hid (spec_pick g N ((k : Int) - 2) w h (by omega) (by omega))
  have hgl := h.lt
  have hw1 : IntKind.i64.wrap ((k : Int) - 2) = (k : Int) - 2 := IntWalk.i64_in _ (by omega)
  clear h
  go_enter Try.func106, Try.ntmps106
  go_wp2_with fail
  refine HP.out.mono ?_
  rintro e w1 ⟨x, rfl, ⟨x0, x1⟩, hc, hg⟩
  obtain ⟨d, rfl⟩ := Int.eq_ofNat_of_zero_le x0
  have hw2 : IntKind.i64.wrap (3 + (d : Int)) = ((d + 3 : Nat) : Int) := by rw [show 3 + (d : Int) = ((d + 3 : Nat) : Int) by omega]; exact IntWalk.i64_in _ (by omega)
  have hc3 : (3 : Int) + (d : Int) = ((d + 3 : Nat) : Int) := by omega
  have HQ := Lib.hid (spec_sureQuiddity g (N + 2) (d + 3) w1 hc (by omega) (by omega) (by omega))
  have Hg := Lib.hid hg
  obtain ⟨n, hn⟩ : ∃ n, n = d + 3 := ⟨_, rfl⟩
  rw [← hn] at HQ hw2 hc3
  have n12 : n ≤ 12 := by omega
  have n3 : 3 ≤ n := by omega
  clear HP hc hg x1 hn
  go_wp2_with fail
  refine HQ.out.mono ?_
  rintro e w2 ⟨A, c, q, rfl, hqn, hq, hnc, ho, hc2, hg2⟩
  have g2 := Hg.out.trans hg2
  obtain ⟨gq, cap0, hv, hgq, hgql⟩ := ho.form (by omega)
  cases hv
  have HP := Lib.hid (spec_pick g (N + 2 + 30) 14 w2 hc2 (by omega) (by omega))
  have Ho := Lib.hid (ho.mono (base' := w.heap.size) (Hg.out.size))
  have Hg2 := Lib.hid g2
  have hgne : gq ≠ g := by have := Hg.out.size; omega
  have hgqb : w.heap.size ≤ gq := by have := Hg.out.size; omega
  have Hqn := Lib.hid hqn
  clear HQ Hg ho hc2 hg2 g2 hc3 hw1 hw2 hq hqn
  go_wp2_with fail
  refine HP.out.mono ?_
  rintro e w3 ⟨x, rfl, ⟨x0, x1⟩, hc3, hg3⟩
  have o3 := own_far Ho.out hg3 (fun k hk e => by have := (Ho.out.lt k hk).1; injection e with e; omega)
  have g3 := Hg2.out.trans hg3
  have hz3 := g3.size
  clear HP Ho Hg2 hg3
  have nn : (n : Int) ≤ 12 := by omega
  have nn3 : (3 : Int) ≤ (n : Int) := by omega
  have ncc : (n : Int) ≤ (c : Int) := by omega
  by_cases hx0 : x = 0
  · subst hx0
    have HP := Lib.hid (spec_pick g (N + 2 + 30 + 2) n w3 hc3 (by omega) (by omega))
    have Ho := Lib.hid o3
    have Hg := Lib.hid g3
    clear hc3 o3 g3 x0 x1
    go_wp2_with fail
    refine HP.out.mono ?_
    rintro e w4 ⟨y, rfl, ⟨y0, y1⟩, hc4, hg4⟩
    obtain ⟨t, rfl⟩ := Int.eq_ofNat_of_zero_le y0
    have htn : t < n := by omega
    have hti : (t : Int) < (n : Int) := by omega
    have o4 := own_far Ho.out hg4 (fun k hk e => by have := (Ho.out.lt k hk).1; injection e with e; omega)
    have g4 := Hg.out.trans hg4
    have hba := (Below.refl w4.heap.size w4).alloc (Nat.le_refl _) (.cells #[.int .i64 (-1), .int .i64 0, .int .i64 1, .int .i64 2, .int .i64 13, .int .i64 4611686018427387904] 3)
    have HA := Lib.hid (spec_among g (N + 2 + 30 + 2 + 2) w4.heap.size 6 6 [-1, 0, 1, 2, 13, 4611686018427387904] _ (hc4.kept hba) (by omega) rfl (by simp) (by have := hc4.lt; omega) (fun j hj => by
      match j, hj with
      | 0, _ => simp [go_sem]
      | 1, _ => simp [go_sem]
      | 2, _ => simp [go_sem]
      | 3, _ => simp [go_sem]
      | 4, _ => simp [go_sem]
      | 5, _ => simp [go_sem]) (by omega) (by omega))
    have o5 := own_kept o4 hba
    have g5 := grownC_below g4 hba
    have Ho5 := Lib.hid o5
    have Hg5 := Lib.hid g5
    clear HP Ho Hg hc4 hg4 o4 g4 hba o5 g5 y1
    go_wp2_with fail
    refine HA.out.mono ?_
    rintro e w6 ⟨z, rfl, _, hc6, hg6⟩
    have o6 := own_far Ho5.out hg6 (fun k hk e => by have := (Ho5.out.lt k hk).1; injection e with e; omega)
    have g6 := Hg5.out.trans hg6
    have cc := o6.cellAt t (by omega)
    rw [ics_get _ _ (by rw [Hqn.out]; exact htn)] at cc
    have ff := o6.frozenAt t
    obtain ⟨o7, h7⟩ := o6.stored t (.int .i64 z)
    rw [ics_set] at o7
    have HD : Hid (DrawnS w g (N + 100) 12 (.returned (.slice (some ⟨gq, 0, none⟩) n c)) (w6.setCell ⟨gq, t, none⟩ (.int .i64 z))) :=
      Lib.hid ⟨some ⟨gq, 0, none⟩, c, q.set t z, by simp [Hqn.out], by simp [Hqn.out]; omega, by simp [Hqn.out]; omega, SlI.of_own o7, (hc6.far h7 (fun k hk => by have := (o6.lt k hk).1; omega)).more (by omega), grownC_new g6 h7 (fun k hk => (o6.lt k hk).1), fun b off sp e => by cases e; exact hgqb⟩
    clear HA Ho5 Hg5 hc6 hg6 o6 g6 o7 h7
    generalize q.getD t 0 = y at *
    go_wp2
    go_ret
    exact HD.out
  · by_cases hx1 : x = 1
    · subst hx1
      have HD : Hid (DrawnS w g (N + 100) 12 (.returned (.slice (some ⟨gq, 1, none⟩) (n - 1) (c - 1))) w3) :=
        Lib.hid ⟨some ⟨gq, 1, none⟩, c - 1, q.drop 1, by simp [Hqn.out], by simp [Hqn.out]; omega, by simp [Hqn.out]; omega, by simpa using (SlI.of_own o3).cutAt 1, hc3.more (by omega), g3, fun b off sp e => by cases e; exact hgqb⟩
      have c1 : ¬ c = 1 := by omega
      have c2 : 1 ≤ n := by omega
      have c3' : n ≤ c := hnc
      clear hc3 o3 g3 hx0 x0 x1
      go_wp2
      go_ret
      exact HD.out
    · by_cases hx2 : x = 2
      · subst hx2
        have cc0 := o3.cellAt 0 (by omega)
        have cc1 := o3.cellAt 1 (by omega)
        rw [ics_get _ _ (by rw [Hqn.out]; omega)] at cc0 cc1
        have ff0 := o3.frozenAt 0
        have ff1 := o3.frozenAt 1
        obtain ⟨o4, h4⟩ := o3.stored 0 (.int .i64 (q.getD 1 0))
        rw [ics_set] at o4
        have L3 := o3.lt
        obtain ⟨o5, h5⟩ := o4.stored 1 (.int .i64 (q.getD 0 0))
        rw [ics_set] at o5
        have h45 := h4.trans h5
        have HD : Hid (DrawnS w g (N + 100) 12 (.returned (.slice (some ⟨gq, 0, none⟩) n c)) ((w3.setCell ⟨gq, 0, none⟩ (.int .i64 (q.getD 1 0))).setCell ⟨gq, 1, none⟩ (.int .i64 (q.getD 0 0)))) :=
          Lib.hid ⟨some ⟨gq, 0, none⟩, c, (q.set 0 (q.getD 1 0)).set 1 (q.getD 0 0), by simp [Hqn.out], by simp [Hqn.out]; omega, by simp [Hqn.out]; omega, SlI.of_own o5, (hc3.far h45 (fun k hk => by have := (L3 k hk).1; omega)).more (by omega), grownC_new g3 h45 (fun k hk => (L3 k hk).1), fun b off sp e => by cases e; exact hgqb⟩
        clear hc3 o3 g3 o4 h4 o5 h5 h45 hx0 hx1 x0 x1
        generalize q.getD 1 0 = y1 at *
        generalize q.getD 0 0 = y0 at *
        go_wp2
        go_ret
        exact HD.out
      · have HD : Hid (DrawnS w g (N + 100) 12 (.returned (.slice (some ⟨gq, 0, none⟩) n c)) w3) :=
          Lib.hid ⟨some ⟨gq, 0, none⟩, c, q, by rw [Hqn.out], by rw [Hqn.out]; omega, by rw [Hqn.out]; exact hnc, SlI.of_own o3, hc3.more (by omega), g3, fun b off sp e => by cases e; exact hgqb⟩
        have n0 : (x == 0) = false := by simpa using hx0
        have n1 : (x == 1) = false := by simpa using hx1
        have n2 : (x == 2) = false := by simpa using hx2
        clear o3 hc3 g3 hx0 hx1 hx2 x1
        go_wp2
        go_ret
        exact HD.out
end Go.Proofs.Ytfkkbjbgjmaciaa

/- CurS: A draw's cursor as it begins; what a draw leaves behind. -/
namespace Go.Proofs.Ytfkkbjbgjmaciaa
open Go.RowKit

theorem CodeB.mono {w : World} {B B' : Nat} {A : Option Addr} {n : Nat} (h : CodeB w B A n) (hB : B ≤ B') : CodeB w B' A n := fun h0 => by
  obtain ⟨b, off, e, hb, hc⟩ := h h0
  exact ⟨b, off, e, Nat.lt_of_lt_of_le hb hB, hc⟩
theorem CodeB.below {w w' : World} {B : Nat} {A : Option Addr} {n : Nat} (h : CodeB w B A n) (hb : Below B w w') : CodeB w' B A n := h.keep fun _ _ hlt => hb.cell (p := ⟨_, _, none⟩) hlt
theorem heap_new (w : World) (o : Obj) : (w.alloc o).heap[w.heap.size]? = some o := by
  show (w.heap.push o)[w.heap.size]? = some o
  simp
/-- the cursor of a draw, as it begins -/
theorem cur_new {w : World} {B n c : Nat} {A : Option Addr} (h : CodeB w B A n) (hB : B ≤ w.heap.size) (hn : n ≤ 1048576) : Cur (w.alloc (.cells #[.slice A n c, .int .i64 0, .int .u64 0] 98)) w.heap.size 0 :=
  ⟨A, n, c, 0, 0, hn, Nat.le_refl _, ⟨by omega, by omega⟩, heap_new w _, (h.below ((Below.refl B w).alloc hB _)).mono hB⟩
theorem DrawnS.giv {w w1 w2 w' : World} {N M : Nat} {e : Ending} {o : Obj} (hw : w1 = w.alloc o) (hg : w1.grownBy w2 (some w.heap.size)) (h : DrawnS w2 w.heap.size N M e w') : GivS w M e w' := by
  obtain ⟨A, c, l, h1, h2, h3, h4, _, h6, _⟩ := h
  subst hw
  exact ⟨A, c, l, h1, h2, h3, h4, below_grown ((Below.refl w.heap.size w).alloc (Nat.le_refl _) o) (hg.trans h6) (Nat.le_refl _) (fun k hk => by injection hk with hk; omega)⟩
theorem giv_below {w w1 w' : World} {o : Obj} (hw : w1 = w.alloc o) (hg : w1.grownBy w' (some w.heap.size)) : Below w.heap.size w w' := by
  subst hw
  exact below_grown ((Below.refl w.heap.size w).alloc (Nat.le_refl _) o) hg (Nat.le_refl _) (fun k hk => by injection hk with hk; omega)
end Go.Proofs.Ytfkkbjbgjmaciaa

/- DrC: The draws of chapter 3: lists of terms, places, numbers. -/
namespace Go.Proofs.Ytfkkbjbgjmaciaa
open Go.RowKit

/-- a list and a number -/
def GivSI (w : World) (M : Nat) (e : Ending) (w' : World) : Prop :=
  ∃ (A : Option Addr) (c : Nat) (l : List Int) (i : Int), e = .returned (.tuple #[.slice A l.length c, .int .i64 i]) ∧ l.length ≤ M ∧ l.length ≤ c ∧ SlI w' w'.heap.size A l ∧ (-1 ≤ i ∧ i ≤ 100) ∧ Below w.heap.size w w'
theorem spec_DrawIsTermList (A : Option Addr) (n c B : Nat) (w : World) (h : CodeB w B A n) (hB : B ≤ w.heap.size) (hn : n ≤ 1048576) :
    Calls Try.prog 91 #[.slice A n c] w (GivS w 11) := by
  obtain ⟨w1, hw1⟩ : ∃ w1, w1 = w.alloc (.cells #[.slice A n c, .int .i64 0, .int .u64 0] 98) := ⟨_, rfl⟩
  have hc : Cur w1 w.heap.size 0 := hw1 ▸ cur_new h hB hn
  have HT := Lib.hid (spec_terms w.heap.size 0 (-3) 6 w1 hc (by omega) (by omega) (by omega) (by omega))
  have HG : Hid (∀ e w', DrawnS w1 w.heap.size 100 11 e w' → GivS w 11 e w') := Lib.hid fun e w' h => h.giv hw1 (World.grownBy.refl w1 _)
  clear h hc
  go_enter Try.func91, Try.ntmps91
  go_wp2_with fail
  rw [← hw1]
  refine HT.out.mono ?_
  intro e w2 hd
  have HR := Lib.hid (HG.out _ _ hd.s)
  obtain ⟨A2, c2, l2, rfl, _⟩ := hd
  clear HT HG hw1
  go_wp2
  go_ret
  exact HR.out
theorem spec_DrawFractionOfPlus (A : Option Addr) (n c B : Nat) (w : World) (h : CodeB w B A n) (hB : B ≤ w.heap.size) (hn : n ≤ 1048576) :
    Calls Try.prog 49 #[.slice A n c] w (GivS w 11) := by
  obtain ⟨w1, hw1⟩ : ∃ w1, w1 = w.alloc (.cells #[.slice A n c, .int .i64 0, .int .u64 0] 98) := ⟨_, rfl⟩
  have hc : Cur w1 w.heap.size 0 := hw1 ▸ cur_new h hB hn
  have HT := Lib.hid (spec_terms w.heap.size 0 (1) 6 w1 hc (by omega) (by omega) (by omega) (by omega))
  have HG : Hid (∀ e w', DrawnS w1 w.heap.size 100 11 e w' → GivS w 11 e w') := Lib.hid fun e w' h => h.giv hw1 (World.grownBy.refl w1 _)
  clear h hc
  go_enter Try.func49, Try.ntmps49
  go_wp2_with fail
  rw [← hw1]
  refine HT.out.mono ?_
  intro e w2 hd
  have HR := Lib.hid (HG.out _ _ hd.s)
  obtain ⟨A2, c2, l2, rfl, _⟩ := hd
  clear HT HG hw1
  go_wp2
  go_ret
  exact HR.out
theorem spec_DrawReduceOnes (A : Option Addr) (n c B : Nat) (w : World) (h : CodeB w B A n) (hB : B ≤ w.heap.size) (hn : n ≤ 1048576) :
    Calls Try.prog 41 #[.slice A n c] w (GivS w 11) := by
  obtain ⟨w1, hw1⟩ : ∃ w1, w1 = w.alloc (.cells #[.slice A n c, .int .i64 0, .int .u64 0] 98) := ⟨_, rfl⟩
  have hc : Cur w1 w.heap.size 0 := hw1 ▸ cur_new h hB hn
  have HT := Lib.hid (spec_terms w.heap.size 0 (1) 4 w1 hc (by omega) (by omega) (by omega) (by omega))
  have HG : Hid (∀ e w', DrawnS w1 w.heap.size 100 11 e w' → GivS w 11 e w') := Lib.hid fun e w' h => h.giv hw1 (World.grownBy.refl w1 _)
  clear h hc
  go_enter Try.func41, Try.ntmps41
  go_wp2_with fail
  rw [← hw1]
  refine HT.out.mono ?_
  intro e w2 hd
  have HR := Lib.hid (HG.out _ _ hd.s)
  obtain ⟨A2, c2, l2, rfl, _⟩ := hd
  clear HT HG hw1
  go_wp2
  go_ret
  exact HR.out
theorem spec_DrawTermsOf (A : Option Addr) (n c B : Nat) (w : World) (h : CodeB w B A n) (hB : B ≤ w.heap.size) (hn : n ≤ 1048576) :
    Calls Try.prog 8 #[.slice A n c] w (GivS w 11) := by
  have HT := Lib.hid (spec_DrawIsTermList A n c B w h hB hn)
  clear h
  go_enter Try.func8, Try.ntmps8
  go_wp2_with fail
  refine HT.out.mono ?_
  rintro e w2 ⟨A2, c2, l2, rfl, h1, h2, h3, h4⟩
  have HR : Hid (GivS w 11 (.returned (.slice A2 l2.length c2)) w2) := Lib.hid ⟨A2, c2, l2, rfl, h1, h2, h3, h4⟩
  clear HT h1 h2 h3 h4
  go_wp2
  go_ret
  exact HR.out
set_option maxHeartbeats 1600000 in
theorem spec_DrawPutOne (A : Option Addr) (n c B : Nat) (w : World) (h : CodeB w B A n) (hB : B ≤ w.heap.size) (hn : n ≤ 1048576) :
    Calls Try.prog 35 #[.slice A n c] w (GivSI w 11) := by
  obtain ⟨w1, hw1⟩ : ∃ w1, w1 = w.alloc (.cells #[.slice A n c, .int .i64 0, .int .u64 0] 98) := ⟨_, rfl⟩
  have hc : Cur w1 w.heap.size 0 := hw1 ▸ cur_new h hB hn
  have hgl := hc.lt
  have HT := Lib.hid (spec_terms w.heap.size 0 (-2) 4 w1 hc (by omega) (by omega) (by omega) (by omega))
  have Hw1 := Lib.hid hw1
  clear h hc
  go_enter Try.func35, Try.ntmps35
  go_wp2_with fail
  rw [← hw1]
  clear hw1
  refine HT.out.mono ?_
  rintro e w2 ⟨A2, c2, l, rfl, hl, ho, hc2, hg2⟩
  have HP := Lib.hid (spec_pick w.heap.size 100 ((l.length : Int) + 2) w2 hc2 (by omega) (by omega))
  have Ho := Lib.hid ho
  have Hg := Lib.hid hg2
  have hll : (l.length : Int) ≤ 11 := by omega
  clear HT ho hc2 hg2
  go_wp2_with fail
  refine HP.out.mono ?_
  rintro e w3 ⟨r, rfl, ⟨r0, r1⟩, hc3, hg3⟩
  have o3 := own_far Ho.out hg3 (fun k hk e => by have := (Ho.out.lt k hk).1; injection e with e; omega)
  have g3 := Hg.out.trans hg3
  have HP2 := Lib.hid (spec_pick w.heap.size 102 2 w3 hc3 (by omega) (by omega))
  have Ho3 := Lib.hid o3
  have Hg3 := Lib.hid g3
  have r12 : r ≤ 12 := by omega
  clear HP Ho Hg hc3 hg3 o3 g3 r1
  go_wp2_with fail
  refine HP2.out.mono ?_
  rintro e w4 ⟨q, rfl, ⟨q0, q1⟩, hc4, hg4⟩
  have o4 := own_far Ho3.out hg4 (fun k hk e => by have := (Ho3.out.lt k hk).1; injection e with e; omega)
  have g4 := Hg3.out.trans hg4
  have q12 : q ≤ 1 := by omega
  have HR : Hid (GivSI w 11 (.returned (.tuple #[.slice A2 l.length c2, .int .i64 (r - q)])) w4) := Lib.hid ⟨A2, c2, l, r - q, rfl, hl, own_capI o4, SlI.of_own o4, ⟨by omega, by omega⟩, giv_below Hw1.out g4⟩
  clear HP2 Ho3 Hg3 hc4 hg4 o4 g4 q1 Hw1
  go_wp2
  go_ret2
  exact HR.out
theorem spec_DrawSplitContinuant (A : Option Addr) (n c B : Nat) (w : World) (h : CodeB w B A n) (hB : B ≤ w.heap.size) (hn : n ≤ 1048576) :
    Calls Try.prog 27 #[.slice A n c] w (GivSI w 11) := by
  have HT := Lib.hid (spec_DrawPutOne A n c B w h hB hn)
  clear h
  go_enter Try.func27, Try.ntmps27
  go_wp2_with fail
  refine HT.out.mono ?_
  rintro e w2 ⟨A2, c2, l2, i, rfl, h1, h2, h3, h4, h5⟩
  have HR : Hid (GivSI w 11 (.returned (.tuple #[.slice A2 l2.length c2, .int .i64 i])) w2) := Lib.hid ⟨A2, c2, l2, i, rfl, h1, h2, h3, h4, h5⟩
  clear HT h1 h2 h3 h4 h5
  go_wp2
  go_ret2
  exact HR.out
/-- a number that a draw tells: small, or one of the great ones -/
def GivN (w : World) (P : Int → Prop) (e : Ending) (w' : World) : Prop := ∃ i : Int, e = .returned (.int .i64 i) ∧ P i ∧ Below w.heap.size w w'
set_option maxRecDepth 100000 in
set_option maxHeartbeats 3200000 in
theorem spec_DrawCountTerms (A : Option Addr) (n c B : Nat) (w : World) (h : CodeB w B A n) (hB : B ≤ w.heap.size) (hn : n ≤ 1048576) :
    Calls Try.prog 29 #[.slice A n c] w (GivN w fun i => -1 ≤ i ∧ i ≤ 11) := by
  obtain ⟨w1, hw1⟩ : ∃ w1, w1 = w.alloc (.cells #[.slice A n c, .int .i64 0, .int .u64 0] 98) := ⟨_, rfl⟩
  have hc : Cur w1 w.heap.size 0 := hw1 ▸ cur_new h hB hn
  have hgl := hc.lt
  have hba := (Below.refl w1.heap.size w1).alloc (Nat.le_refl _) (.cells #[.int .i64 0, .int .i64 1, .int .i64 2, .int .i64 3, .int .i64 5, .int .i64 10, .int .i64 11, .int .i64 (-1)] 3)
  have HA := Lib.hid (spec_among w.heap.size 0 w1.heap.size 8 8 [0, 1, 2, 3, 5, 10, 11, -1] _ (hc.kept hba) (by omega) rfl (by simp) (by omega) (fun j hj => by
    match j, hj with
    | 0, _ => simp [go_sem]
    | 1, _ => simp [go_sem]
    | 2, _ => simp [go_sem]
    | 3, _ => simp [go_sem]
    | 4, _ => simp [go_sem]
    | 5, _ => simp [go_sem]
    | 6, _ => simp [go_sem]
    | 7, _ => simp [go_sem]) (by omega) (by omega))
  have hz1 : w1.heap.size = w.heap.size + 1 := by rw [hw1]; simp
  rw [hz1] at HA
  have Hb := Lib.hid hba
  have Hw1 := Lib.hid hw1
  clear h hc hba hz1
  go_enter Try.func29, Try.ntmps29
  go_wp2_with fail
  rw [← hw1]
  clear hw1
  refine HA.out.mono ?_
  rintro e w2 ⟨r, rfl, hr, hc2, hg2⟩
  have hr2 : -1 ≤ r ∧ r ≤ 11 := by simp at hr; omega
  have HR : Hid (GivN w (fun i => -1 ≤ i ∧ i ≤ 11) (.returned (.int .i64 r)) w2) := Lib.hid ⟨r, rfl, hr2, giv_below Hw1.out (World.grownBy.trans (grownC_below (World.grownBy.refl w1 _) Hb.out) hg2)⟩
  clear HA Hb Hw1 hr hr2 hc2 hg2
  go_wp2
  go_ret
  exact HR.out
theorem SlI.farKeep {w w' : World} {B g : Nat} {A : Option Addr} {l : List Int} (h : SlI w B A l) (hB : B ≤ w.heap.size) (hf : ∀ b off sp, A = some ⟨b, off, sp⟩ → g < b) (hg : w.grownBy w' (some g)) : SlI w' B A l := fun h0 => by
  obtain ⟨b, off, e, hb, hc⟩ := h h0
  refine ⟨b, off, e, hb, fun j hj => ?_⟩
  rw [← hc j hj]
  exact World.cell?_of_block (w := w) (hg.block b (Nat.lt_of_lt_of_le hb hB) (fun e2 => by injection e2 with e2; have := hf _ _ _ e; omega))
/-- a list and two numbers -/
def GivSII (w : World) (M : Nat) (e : Ending) (w' : World) : Prop :=
  ∃ (A : Option Addr) (c : Nat) (l : List Int) (i j : Int), e = .returned (.tuple #[.slice A l.length c, .int .i64 i, .int .i64 j]) ∧ l.length ≤ M ∧ l.length ≤ c ∧ SlI w' w'.heap.size A l ∧ (-1000 ≤ i ∧ i ≤ 4611686018427387904) ∧ (-2000 ≤ j ∧ j ≤ 4611686018427387994) ∧ Below w.heap.size w w'
set_option maxRecDepth 100000 in
set_option maxHeartbeats 3200000 in
theorem spec_DrawEntryByContinuant (A : Option Addr) (n c B : Nat) (w : World) (h : CodeB w B A n) (hB : B ≤ w.heap.size) (hn : n ≤ 1048576) :
    Calls Try.prog 31 #[.slice A n c] w (GivSII w 12) := by
  obtain ⟨w1, hw1⟩ : ∃ w1, w1 = w.alloc (.cells #[.slice A n c, .int .i64 0, .int .u64 0] 98) := ⟨_, rfl⟩
  have hc : Cur w1 w.heap.size 0 := hw1 ▸ cur_new h hB hn
  have hgl := hc.lt
  have HT := Lib.hid (spec_quiddity w.heap.size 0 9 w1 hc (by omega) (by omega) (by omega))
  have Hw1 := Lib.hid hw1
  clear h hc
  go_enter Try.func31, Try.ntmps31
  go_wp2_with fail
  rw [← hw1]
  clear hw1
  refine HT.out.mono ?_
  rintro e w2 ⟨A2, c2, l, rfl, hl, hlc, hs, hc2, hg2, hfar⟩
  have HP := Lib.hid (spec_pick w.heap.size 100 9 w2 hc2 (by omega) (by omega))
  have Hs := Lib.hid hs
  have Hf := Lib.hid hfar
  have Hg := Lib.hid hg2
  have Hlc := Lib.hid hlc
  have hll : (l.length : Int) ≤ 12 := by omega
  have hz2 : w.heap.size < w2.heap.size := by have := hg2.size; omega
  clear HT hs hc2 hg2 hfar hlc
  go_wp2_with fail
  refine HP.out.mono ?_
  rintro e w3 ⟨r, rfl, ⟨r0, r1⟩, hc3, hg3⟩
  have s3 := Hs.out.farKeep (Nat.le_refl _) (fun b off sp e => Nat.lt_of_lt_of_le hgl (Hf.out b off sp e)) hg3
  have g3 := Hg.out.trans hg3
  have r8 : r ≤ 8 := by omega
  have hba := (Below.refl w3.heap.size w3).alloc (Nat.le_refl _) (.cells #[.int .i64 0, .int .i64 1, .int .i64 (-1), .int .i64 5, .int .i64 (-1000), .int .i64 1000, .int .i64 1001, .int .i64 4611686018427387904, .int .i64 r] 3)
  have hz3 := hg3.size
  have HA := Lib.hid (spec_among w.heap.size 102 w3.heap.size 9 9 [0, 1, -1, 5, -1000, 1000, 1001, 4611686018427387904, r] _ (hc3.kept hba) (by omega) rfl (by simp) (by omega) (fun j hj => by
    match j, hj with
    | 0, _ => simp [go_sem]
    | 1, _ => simp [go_sem]
    | 2, _ => simp [go_sem]
    | 3, _ => simp [go_sem]
    | 4, _ => simp [go_sem]
    | 5, _ => simp [go_sem]
    | 6, _ => simp [go_sem]
    | 7, _ => simp [go_sem]
    | 8, _ => simp [go_sem]) (by omega) (by omega))
  have Hs3 := Lib.hid s3
  have Hg3 := Lib.hid g3
  have Hb := Lib.hid hba
  clear HP Hs Hg hc3 hg3 s3 g3 hba r1
  go_wp2_with fail
  refine HA.out.mono ?_
  rintro e w4 ⟨i, rfl, hi, hc4, hg4⟩
  have hi2 : -1000 ≤ i ∧ i ≤ 4611686018427387904 := by simp at hi; omega
  obtain ⟨i0, i1⟩ := hi2
  have s4 := (Hs3.out.below (Hb.out.mono (by omega))).farKeep (Nat.le_trans hz3 Hb.out.size) (fun b off sp e => Nat.lt_of_lt_of_le hgl (Hf.out b off sp e)) hg4
  have g4 := (grownC_below Hg3.out Hb.out).trans hg4
  have HP := Lib.hid (spec_pick w.heap.size 104 ((l.length : Int) + 3) w4 hc4 (by omega) (by omega))
  have hz4 := hg4.size
  have hz34 := Hb.out.size
  have Hs4 := Lib.hid s4
  have Hg4 := Lib.hid g4
  clear HA hi Hs3 Hg3 Hb hc4 hg4 s4 g4
  go_wp2_with fail
  refine HP.out.mono ?_
  rintro e w5 ⟨p, rfl, ⟨p0, p1⟩, hc5, hg5⟩
  have p14 : p ≤ 14 := by omega
  have s5 := Hs4.out.farKeep (by omega) (fun b off sp e => Nat.lt_of_lt_of_le hgl (Hf.out b off sp e)) hg5
  have g5 := Hg4.out.trans hg5
  have hz5 := hg5.size
  have HR : Hid (GivSII w 12 (.returned (.tuple #[.slice A2 l.length c2, .int .i64 i, .int .i64 (i + p - 1)])) w5) := Lib.hid ⟨A2, c2, l, i, i + p - 1, rfl, hl, Hlc.out, s5.mono (by omega), ⟨i0, i1⟩, ⟨by omega, by omega⟩, giv_below Hw1.out g5⟩
  clear HP Hs4 Hg4 Hf hc5 hg5 s5 g5 p1 Hw1 hz2 hz3 hz4 hz34 hz5
  go_wp2
  exact bodyPost_ret (v := .tuple #[.slice A2 l.length c2, .int .i64 i, .int .i64 (i + p - 1)]) (by simp [results, Try.results31, go_sem]) rfl HR.out
end Go.Proofs.Ytfkkbjbgjmaciaa

/- DrD: The draws of chapter 3, the one that looks for ones. -/
namespace Go.Proofs.Ytfkkbjbgjmaciaa
open Go.RowKit

set_option maxRecDepth 100000 in
set_option maxHeartbeats 3200000 in
theorem spec_DrawTakeOne (A : Option Addr) (n c B : Nat) (w : World) (h : CodeB w B A n) (hB : B ≤ w.heap.size) (hn : n ≤ 1048576) :
    Calls Try.prog 39 #[.slice A n c] w (GivSI w 11) := by
  obtain ⟨w1, hw1⟩ : ∃ w1, w1 = w.alloc (.cells #[.slice A n c, .int .i64 0, .int .u64 0] 98) := ⟨_, rfl⟩
  have hc : Cur w1 w.heap.size 0 := hw1 ▸ cur_new h hB hn
  have hgl := hc.lt
  have HT := Lib.hid (spec_terms w.heap.size 0 1 3 w1 hc (by omega) (by omega) (by omega) (by omega))
  have Hw1 := Lib.hid hw1
  clear h hc
  go_enter Try.func39, Try.ntmps39
  go_wp2_with fail
  rw [← hw1]
  clear hw1
  refine HT.out.mono ?_
  rintro e w2 ⟨A2, c2, l, rfl, hl, ho, hc2, hg2⟩
  have Ho := Lib.hid ho
  have Hg := Lib.hid hg2
  have Hc := Lib.hid hc2
  have hll : (l.length : Int) ≤ 11 := by omega
  clear HT ho hc2 hg2
  go_wp2
  go_loopw [6, 7, 15] (fun _ _ i wr => ∃ k : Nat, k ≤ l.length ∧ i = .int .i64 k ∧ Cur wr w.heap.size (100 + 2 * k) ∧ wr.ownsRow w1.heap.size 3 1 (.slice A2 l.length c2) l.length (ics l) ∧ w1.grownBy wr (some w.heap.size)) (fun _ _ i _ => l.length - (intOf i).toNat)
  case atStart => exact ⟨0, Nat.zero_le _, rfl, Hc.out, Ho.out, Hg.out⟩
  case round =>
    clear Ho Hg Hc
    obtain ⟨k, hk, rfl, hc, ho, hg⟩ := hrel
    by_cases hlt : k < l.length
    · obtain ⟨b', off, rfl, hbB, hcl⟩ := (SlI.of_own ho) (by omega)
      have g0 := hcl k hlt
      have i0 : (0 : Int) ≤ (k : Int) := by omega
      have i1 : (k : Int) < (l.length : Int) := by omega
      generalize l.getD k 0 = x at *
      by_cases hx : x = 1 ∧ 0 < k
      · obtain ⟨hx1, hk0⟩ := hx
        subst hx1
        have i2 : (0 : Int) < (k : Int) := by omega
        have HO := Lib.hid (spec_one w.heap.size (100 + 2 * k) 2 wr hc (by omega) (by omega))
        have Ho := Lib.hid ho
        have Hg := Lib.hid hg
        clear hcl hc ho hg
        go_wp2_with fail
        refine HO.out.mono ?_
        rintro e w3 ⟨b, rfl, hc3, hg3⟩
        have o3 := own_far Ho.out hg3 (fun k hk e => by have := (Ho.out.lt k hk).1; injection e with e; omega)
        have g3 := Hg.out.trans hg3
        cases b
        · have HE := Lib.hid (And.intro (hc3.more (show 100 + 2 * k + 2 ≤ 100 + 2 * (k + 1) by omega)) (And.intro o3 g3))
          clear HO Ho Hg hc3 hg3 o3 g3 g0
          go_wp2
          go_roundw
          case rel => exact ⟨k + 1, by omega, by go_num, HE.out⟩
          case measure => simp [intOf]; omega
        · have HR : Hid (GivSI w 11 (.returned (.tuple #[.slice (some ⟨b', off, none⟩) l.length c2, .int .i64 k])) w3) := Lib.hid ⟨_, c2, l, k, rfl, hl, own_capI o3, SlI.of_own o3, ⟨by omega, by omega⟩, giv_below Hw1.out g3⟩
          clear HO Ho Hg hc3 hg3 o3 g3 g0
          go_wp2
          go_ret2
          exact HR.out
      · have HE := Lib.hid (And.intro (hc.more (show 100 + 2 * k ≤ 100 + 2 * (k + 1) by omega)) (And.intro ho hg))
        clear hcl hc ho hg
        by_cases hx1 : x = 1
        · have i2 : ¬ (0 : Int) < (k : Int) := by omega
          subst hx1
          clear hx
          go_wp2
          go_roundw
          case rel => exact ⟨k + 1, by omega, by go_num, HE.out⟩
          case measure => simp [intOf]; omega
        · have i2 : (x == 1) = false := by simpa using hx1
          clear hx
          go_wp2
          go_roundw
          case rel => exact ⟨k + 1, by omega, by go_num, HE.out⟩
          case measure => simp [intOf]; omega
    · obtain rfl : k = l.length := by omega
      have i1 : ¬ (l.length : Int) < (l.length : Int) := by omega
      have HP := Lib.hid (spec_pick w.heap.size (100 + 2 * l.length) ((l.length : Int) + 2) wr hc (by omega) (by omega))
      have Ho := Lib.hid ho
      have Hg := Lib.hid hg
      clear hc ho hg
      go_wp2_with fail
      refine HP.out.mono ?_
      rintro e w3 ⟨r, rfl, ⟨r0, r1⟩, hc3, hg3⟩
      have o3 := own_far Ho.out hg3 (fun k hk e => by have := (Ho.out.lt k hk).1; injection e with e; omega)
      have g3 := Hg.out.trans hg3
      have r12 : r ≤ 12 := by omega
      have HR : Hid (GivSI w 11 (.returned (.tuple #[.slice A2 l.length c2, .int .i64 (r - 1)])) w3) := Lib.hid ⟨A2, c2, l, r - 1, rfl, hl, own_capI o3, SlI.of_own o3, ⟨by omega, by omega⟩, giv_below Hw1.out g3⟩
      clear HP Ho Hg hc3 hg3 o3 g3 r1
      go_wp2
      go_ret2
      exact HR.out
end Go.Proofs.Ytfkkbjbgjmaciaa
