/- RqA: one text, since a claim holds 60 files at most. -/
import Derived.Test.YtlnnnjnboknoeabOfM
import Derived.Test.YtlnnnjnboknoeabTriOfS
import Derived.Test.YtlnnnjnboknoeabTriOfJ
import Derived.Test.YtlnnnjnboknoeabLawM
import Derived.Test.YtlnnnjnboknoeabLawSS
import Derived.Test.YtlnnnjnboknoeabApp
import Derived.Test.YtlnnnjnboknoeabAllTriangulationsW
import Derived.Test.YtlnnnjnboknoeabCntT
import Derived.Test.YtlnnnjnboknoeabTriI
import Derived.Test.YtlnnnjnboknoeabAltM
import Derived.Test.YtlnnnjnboknoeabQuidM
import Derived.Test.YtlnnnjnboknoeabAppI
import Derived.Test.YtlnnnjnboknoeabQuiddityOfW
import Derived.Test.YtlnnnjnboknoeabQuid
import Derived.Test.YtlnnnjnboknoeabDDA
import Derived.IntWalk
import Derived.Deep.QuietTactic
import Derived.BigQuiet
import Derived.Shelf.SlSortCmp.Kit1
import Derived.Shelf.SlLaysF
import Derived.Shelf.SlSortCmp.Whole1
import Derived.Laws.AppendOwnNone
/- FrM: Entries of a frieze, told from the left: plain mathematics. -/
namespace Go.Proofs.Ytlnnnjnboknoeab
set_option linter.unusedVariables false
open Go.RowKit

/-- an index, around -/
def mdI (k n : Int) : Int := (k.tmod n + n) % n
theorem mdI_bd (k n : Int) (hn : 1 ≤ n) : 0 ≤ mdI k n ∧ mdI k n < n := by
  unfold mdI
  exact ⟨Int.emod_nonneg _ (by omega), Int.emod_lt_of_pos _ (by omega)⟩
theorem tmod_bd (k n : Int) (hn : 1 ≤ n) : -n < k.tmod n ∧ k.tmod n < n := by
  by_cases h : 0 ≤ k
  · have h1 := Int.tmod_nonneg n h
    have h2 := Int.tmod_lt_of_pos k (show 0 < n by omega)
    omega
  · have e : k.tmod n = -((-k).tmod n) := by
      have := Int.neg_tmod (-k) n
      rw [Int.neg_neg] at this
      exact this
    have h1 := Int.tmod_nonneg n (show 0 ≤ -k by omega)
    have h2 := Int.tmod_lt_of_pos (-k) (show 0 < n by omega)
    omega
theorem mdI_eq (k n : Int) : mdI k n = k % n := by
  unfold mdI
  rw [Int.add_emod_right, Int.tmod_def]
  first
    | exact Int.sub_mul_emod_self_left _ _ _
    | simp [Int.sub_emod]

/-- the entry before and the entry, s steps from i on -/
def entS (q : List Int) (i : Int) : Nat → Int × Int
  | 0 => (-1, 0)
  | s + 1 => ((entS q i s).2, wrap64 (wrap64 (q.getD (mdI (i + s) q.length).toNat 0 * (entS q i s).2) - (entS q i s).1))
/-- the entry of i and j -/
def ent (q : List Int) (i j : Int) : Int := (entS q i (j - i).toNat).2
end Go.Proofs.Ytlnnnjnboknoeab

/- IsQuiddityW: The walks of the laws of TriangulationOf and IsQuiddity. -/
namespace Go.Proofs.Ytlnnnjnboknoeab
open Go.RowKit

end Go.Proofs.Ytlnnnjnboknoeab

/- EntryOfW: Entries of a frieze: the model's frEntry, the program's entriesOf; EntryOf's walk. -/
namespace Go.Proofs.Ytlnnnjnboknoeab
open Go.RowKit

/-- where an index lies, around -/
theorem md_at (k : Int) (n : Nat) (hn : 1 ≤ n) : ∃ r : Nat, r < n ∧ (k.tmod (n : Int) + (n : Int)) % (n : Int) = (r : Int) ∧ (mdI k n).toNat = r := by
  have h := mdI_bd k n (by omega)
  obtain ⟨r, hr⟩ := Int.eq_ofNat_of_zero_le h.1
  refine ⟨r, by omega, hr, ?_⟩
  rw [hr]
  rfl

/-- the two cells that the closure of entriesOf holds -/
def Caps (w : World) (gq gn : Nat) (A : Option Addr) (c : Nat) (q : List Int) : Prop :=
  w.cell? ⟨gq, 0, none⟩ = some (.slice A q.length c) ∧ w.cell? ⟨gn, 0, none⟩ = some (.int .i64 q.length)

/-- there is an entry of i and j -/
def okE (q : List Int) (i j : Int) : Bool := isQ q && inB i (-1000) 1000 && inB j i (i + q.length)
theorem inB_iff' {n lo hi : Int} : inB n lo hi = true ↔ lo ≤ n ∧ n ≤ hi := by unfold inB; simp
theorem okE_iff {q : List Int} {i j : Int} : okE q i j = true ↔ isQ q = true ∧ (-1000 ≤ i ∧ i ≤ 1000) ∧ (i ≤ j ∧ j ≤ i + q.length) := by
  unfold okE
  rw [Bool.and_eq_true, Bool.and_eq_true, inB_iff', inB_iff', and_assoc]
def entR (q : List Int) (i j : Int) : Int := if okE q i j = true then ent q i j else 0
def EntEnd (q : List Int) (i j : Int) (w : World) (e : Ending) (w' : World) : Prop := e = .returned (.tuple #[.int .i64 (entR q i j), .bool (okE q i j)]) ∧ Below w.heap.size w w'
theorem entEnd_no {q : List Int} {i j : Int} {w w' : World} (h : okE q i j = false) (hb : Below w.heap.size w w') : EntEnd q i j w (.returned (.tuple #[.int .i64 0, .bool false])) w' := by
  unfold EntEnd entR
  rw [h]
  exact ⟨rfl, hb⟩
theorem entEnd_yes {q : List Int} {i j : Int} {w w' : World} (h : okE q i j = true) (hb : Below w.heap.size w w') : EntEnd q i j w (.returned (.tuple #[.int .i64 (ent q i j), .bool true])) w' := by
  unfold EntEnd entR
  rw [h]
  exact ⟨rfl, hb⟩

end Go.Proofs.Ytlnnnjnboknoeab

/- SSA: Lists of lists in the making: a row appended, a row stored. -/
namespace Go.Proofs.Ytlnnnjnboknoeab
open Go.RowKit

theorem infoSl : (Try.prog.info? 27).map (fun i => (i.zero, i.size, i.bytes)) = some (some (.slice none 0 0), 1, 24) := by kernel_rfl

section
variable {w w' : World} {base : Nat} {A : Option Addr} {c : Nat} {rs : List Value} {Ls : List (List Int)}
theorem rowOf_snoc (Ls : List (List Int)) (L : List Int) (j : Nat) : rowOf (Ls ++ [L]) j = if j < Ls.length then rowOf Ls j else if j = Ls.length then L else [] := by
  unfold rowOf
  simp only [List.getD_eq_getElem?_getD]
  by_cases h : j < Ls.length
  · rw [if_pos h, List.getElem?_append_left h]
  · rw [if_neg h, List.getElem?_append_right (by omega)]
    by_cases e : j = Ls.length
    · subst e; simp
    · rw [if_neg e, List.getElem?_eq_none (by simp; omega)]; rfl
theorem rvOf_snoc (rs : List Value) (r : Value) (j : Nat) (h : j ≤ rs.length) : rvOf (rs ++ [r]) j = if j < rs.length then rvOf rs j else r := by
  unfold rvOf
  simp only [List.getD_eq_getElem?_getD]
  by_cases hj : j < rs.length
  · rw [if_pos hj, List.getElem?_append_left hj]
  · obtain rfl : j = rs.length := by omega
    rw [if_neg hj, List.getElem?_append_right (by omega)]
    simp
/-- a row more -/
theorem OwnSS.snoc {n : Nat} {r : Value} {L : List Int} {A3 : Option Addr} {c3 : Nat} (b : Nat) (hn : Ls.length = n) (hl : rs.length = n) (ho : w.ownsRow base 27 1 (.slice A3 (n + 1) c3) (n + 1) (rs ++ [r]))
    (hr : ∀ j, j < n → w.ownsRow base 3 1 (rvOf rs j) (rowOf Ls j).length (ics (rowOf Ls j)) ∧ ∀ k, (rvOf rs j).ownBlock = some k → k < b) (hd : ∀ i j, i < n → j < n → i ≠ j → ∀ k, (rvOf rs i).ownBlock = some k → some k ≠ (rvOf rs j).ownBlock)
    (hnew : w.ownsRow base 3 1 r L.length (ics L)) (hb : ∀ k, r.ownBlock = some k → b ≤ k) : OwnSS w base A3 c3 (rs ++ [r]) (Ls ++ [L]) := by
  subst hn
  have e : (Ls ++ [L]).length = Ls.length + 1 := by simp
  refine ⟨by simp [hl], by rw [e]; exact ho, fun j hj => ?_, fun i j hi hj hij k hk => ?_⟩
  · rw [rvOf_snoc rs r j (by rw [hl]; rw [e] at hj; omega), rowOf_snoc, hl]
    by_cases h : j < Ls.length
    · rw [if_pos h, if_pos h]; exact (hr j h).1
    · rw [if_neg h, if_neg h, if_pos (by rw [e] at hj; omega)]; exact hnew
  · rw [e] at hi hj
    rw [rvOf_snoc rs r i (by rw [hl]; omega), hl] at hk
    rw [rvOf_snoc rs r j (by rw [hl]; omega), hl]
    by_cases h1 : i < Ls.length
    · rw [if_pos h1] at hk
      by_cases h2 : j < Ls.length
      · rw [if_pos h2]; exact hd i j h1 h2 hij k hk
      · rw [if_neg h2]
        intro e2
        have := (hr i h1).2 k hk
        have := hb k e2.symm
        omega
    · rw [if_neg h1] at hk
      rw [if_pos (by omega)]
      intro e2
      have := (hr j (by omega)).2 k e2.symm
      have := hb k hk
      omega
/-- a row stored -/
theorem OwnSS.store {g t : Nat} {r : Value} {L : List Int} (h : OwnSS w base (some ⟨g, 0, none⟩) c rs Ls) (ht : t < Ls.length) (hnew : w.ownsRow base 3 1 r L.length (ics L))
    (hd : ∀ j, j < Ls.length → j ≠ t → ∀ k, r.ownBlock = some k → some k ≠ (rvOf rs j).ownBlock) :
    OwnSS (w.setCell ⟨g, t, none⟩ r) base (some ⟨g, 0, none⟩) c (rs.set t r) (Ls.set t L) ∧ w.grownBy (w.setCell ⟨g, t, none⟩ r) (some g) := by
  obtain ⟨h1, h2⟩ := World.ownsRow.stored h.2.1 t r
  have hne : ∀ {n : Nat} {v : Value} {xs : List Value}, w.ownsRow base 3 1 v n xs → ∀ k, v.ownBlock = some k → some k ≠ some g := fun ho k hk e => own_ne ho h.2.1 (by decide) k hk e
  have ers : ∀ j, rvOf (rs.set t r) j = if j = t then (if t < rs.length then r else .slice none 0 0) else rvOf rs j := fun j => by
    unfold rvOf
    simp only [List.getD_eq_getElem?_getD, List.getElem?_set]
    by_cases e : t = j
    · subst e
      by_cases h : t < rs.length <;> simp [h]
    · rw [if_neg e, if_neg (fun x => e x.symm)]
  have eLs : ∀ j, rowOf (Ls.set t L) j = if j = t then L else rowOf Ls j := fun j => by
    unfold rowOf
    simp only [List.getD_eq_getElem?_getD, List.getElem?_set]
    by_cases e : t = j
    · subst e; simp [ht]
    · rw [if_neg e, if_neg (fun x => e x.symm)]
  have htr : t < rs.length := by rw [h.1]; exact ht
  refine ⟨⟨by simp [h.1], by rw [List.length_set]; exact h1, fun j hj => ?_, fun i j hi hj hij k hk => ?_⟩, h2⟩
  · rw [List.length_set] at hj
    rw [ers, eLs]
    by_cases e : j = t
    · rw [if_pos e, if_pos e, if_pos htr]; exact own_far hnew h2 (hne hnew)
    · rw [if_neg e, if_neg e]; exact own_far (h.2.2.1 j hj) h2 (hne (h.2.2.1 j hj))
  · rw [List.length_set] at hi hj
    rw [ers] at hk
    rw [ers]
    by_cases e1 : i = t
    · rw [if_pos e1, if_pos htr] at hk
      rw [if_neg (by omega)]
      exact hd j hj (by omega) k hk
    · rw [if_neg e1] at hk
      by_cases e2 : j = t
      · rw [if_pos e2, if_pos htr]
        intro e3
        exact hd i hi e1 k e3.symm (by rw [hk])
      · rw [if_neg e2]; exact h.2.2.2 i j hi hj hij k hk
end

/-- a row appended, behind a new block: what is owned then -/
theorem OwnSS.app {w2 w3 : World} {base b : Nat} {A A3 : Option Addr} {c c3 : Nat} {rs : List Value} {Ls : List (List Int)} {r : Value} {L : List Int} {o : Obj} (h : OwnSS w2 base A c rs Ls) (hb : ∀ j, j < Ls.length → ∀ k, (rvOf rs j).ownBlock = some k → k < b)
    (hnew : w2.ownsRow base 3 1 r L.length (ics L)) (hrb : ∀ k, r.ownBlock = some k → b ≤ k) (ho : w3.ownsRow base 27 1 (.slice A3 (Ls.length + 1) c3) (Ls.length + 1) (rs ++ [r])) (hg : (w2.alloc o).grownBy w3 (Value.slice A Ls.length c).ownBlock) :
    OwnSS w3 base A3 c3 (rs ++ [r]) (Ls ++ [L]) := by
  have far : ∀ {n : Nat} {v : Value} {xs : List Value}, w2.ownsRow base 3 1 v n xs → w3.ownsRow base 3 1 v n xs := fun hv =>
    own_far (hv.alloc o) hg (fun k hk e => own_ne hv h.2.1 (by decide) k hk e)
  exact OwnSS.snoc b rfl h.1 ho (fun j hj => ⟨far (h.2.2.1 j hj), hb j hj⟩) h.2.2.2 (far hnew) hrb
theorem OwnSS.blk {w : World} {base : Nat} {A : Option Addr} {c : Nat} {rs : List Value} {Ls : List (List Int)} (h : OwnSS w base A c rs Ls) : ∀ j, j < Ls.length → ∀ k, (rvOf rs j).ownBlock = some k → k < w.heap.size := fun j hj k hk => ((h.2.2.1 j hj).lt k hk).2
theorem OwnSS.alloc {w : World} {base : Nat} {A : Option Addr} {c : Nat} {rs : List Value} {Ls : List (List Int)} (h : OwnSS w base A c rs Ls) (o : Obj) : OwnSS (w.alloc o) base A c rs Ls := ⟨h.1, h.2.1.alloc o, fun j hj => (h.2.2.1 j hj).alloc o, h.2.2.2⟩
theorem OwnSS.far2 {w w' : World} {base : Nat} {A : Option Addr} {c : Nat} {rs : List Value} {Ls : List (List Int)} {o : Obj} (h : OwnSS w base A c rs Ls) (hg : (w.alloc o).grownBy w' (some w.heap.size)) : OwnSS w' base A c rs Ls :=
  ⟨h.1, own_far (h.2.1.alloc o) hg (ne_old h.2.1), fun j hj => own_far ((h.2.2.1 j hj).alloc o) hg (ne_old (h.2.2.1 j hj)), h.2.2.2⟩
theorem pre_bd (Ls : List (List Int)) (M : Nat) (h : ∀ j, j < Ls.length → (rowOf Ls j).length ≤ M) : ∀ j, j ≤ Ls.length → pre Ls j ≤ j * M := by
  intro j
  induction j with
  | zero => intro _; rw [pre_zero]; omega
  | succ j ih =>
    intro hj
    rw [pre_succ Ls j (by omega), Nat.succ_mul]
    have := ih (by omega)
    have := h j (by omega)
    omega
theorem zerosSS (m : Nat) : (madeCells (Value.slice none 0 0).cells (m * 1)).toList = List.replicate m (Value.slice none 0 0) := by
  rw [Nat.mul_one]
  show (madeCells #[Value.slice none 0 0] m).toList = _
  rw [toList_madeCells_one]
/-- rows in the making: none told yet -/
theorem OwnSS.zeros {w : World} {base g m : Nat} (h : w.ownsRow base 27 1 (.slice (some ⟨g, 0, none⟩) m m) m (List.replicate m (.slice none 0 0))) : OwnSS w base (some ⟨g, 0, none⟩) m (List.replicate m (.slice none 0 0)) (List.replicate m []) := by
  have e1 : ∀ j, rvOf (List.replicate m (Value.slice none 0 0)) j = .slice none 0 0 := fun j => by
    unfold rvOf
    simp only [List.getD_eq_getElem?_getD, List.getElem?_replicate]
    split <;> rfl
  have e2 : ∀ j, rowOf (List.replicate m ([] : List Int)) j = [] := fun j => by
    unfold rowOf
    simp only [List.getD_eq_getElem?_getD, List.getElem?_replicate]
    split <;> rfl
  refine ⟨by simp, by simpa using h, fun j hj => ?_, fun i j hi hj hij k hk => ?_⟩
  · rw [e1, e2]; exact World.ownsRow_nil _ _ _ _
  · rw [e1] at hk; simp [Value.ownBlock] at hk

section
variable {ops : Array Oper} {rest : List Oper} {o : Oper} {a : Act} {Q : Exit → Act → World → Prop}
/-- append of one row's value to the outer row -/
theorem append1SS (w : World) (hgd : o.guard = none) (s x : Operand) (ho : o.op = .call { callee := .builtin .append, args := #[s, x], argTypes := #[70, 70] })
    (base : Nat) (v : Value) (n : Nat) (rs : List Value) (hs : a.eval s = v) (hown : w.ownsRow base 27 1 v n rs) (g : Nat) (r : Value) (hr : r.oneCell' = true) (hx : a.eval x = .slice (some ⟨g, 0, none⟩) 1 1)
    (hc : w.cell? ⟨g, 0, none⟩ = some r) (hlen : n ≤ 1000000) (hbase : base ≤ w.heap.size)
    (h : ∀ A' c' w', w'.ownsRow base 27 1 (.slice A' (n + 1) c') (n + 1) (rs ++ [r]) → w.grownBy w' v.ownBlock → wpList Try.prog ops Q rest (a.put o.dst (.slice A' (n + 1) c')) w') :
    wpList Try.prog ops Q (o :: rest) a w := by
  obtain ⟨i0, hi, hz0, hz1, hz2⟩ := info_parts infoSl
  refine wpList_append_own w hgd s x 70 ho base 27 i0 (.slice none 0 0) 1 24 Try.underlying70 hi hz0 hz1 hz2 rfl (by decide) v n rs hs hown ⟨g, 0, none⟩ 1 1 [r] hx rfl ?_ ?_ ?_ ?_ hbase ?_
  · intro j u hu
    match j, hu with
    | 0, hu =>
      rw [Addr.add_zero', hc]
      simpa using hu
  · intro u hu
    simp at hu
    subst hu
    exact hr
  · unfold maxLen; omega
  · omega
  · intro v' w' hown' hg _
    obtain ⟨A', c', rfl⟩ := own_form hown'
    exact h A' c' w' hown' hg
end
end Go.Proofs.Ytlnnnjnboknoeab

/- TriangulationOfRankW: TriangulationOfRank: both sides, and the law's walk. -/
namespace Go.Proofs.Ytlnnnjnboknoeab
open Go.RowKit

theorem spec_caFew (n : Int) (w : World) : Calls Try.prog 72 #[.int .i64 n] w fun e w' => e = .returned (.bool (inB n 3 8)) ∧ w = w' := by
  go_enter Try.func72, Try.ntmps72
  go_wp2_with fail
  refine (spec_l1In _ _ _ _).mono ?_
  rintro e w2 ⟨rfl, rfl⟩
  go_wp2
  go_ret
  exact ⟨rfl, rfl⟩

/-- the triangulation of a rank -/
def rkB (n k : Int) : Bool := inB n 3 8 && inB k 0 ((atR n).length - 1)
def rkR (n k : Int) : List (Int × Int) := if rkB n k = true then rowD (atR n) k.toNat else []
theorem rkR_no {n k : Int} (h : rkB n k = false) : rkR n k = [] := by simp [rkR, h]
theorem rkR_yes {n : Int} {k : Nat} (h : rkB n k = true) : rkR n k = rowD (atR n) k := by simp [rkR, h]
theorem rkR_length (n k : Int) : (rkR n k).length ≤ 1000000000 := by
  cases h : rkB n k
  · rw [rkR_no h]; simp
  · unfold rkB at h
    rw [Bool.and_eq_true] at h
    have := inB_iff.1 h.2
    obtain ⟨j, rfl⟩ := Int.eq_ofNat_of_zero_le this.1
    have h2 : rkB n j = true := by unfold rkB; rw [h.1, h.2]; rfl
    rw [rkR_yes h2]
    have := atR_row n j (by omega)
    omega
theorem rk_few {n k : Int} (h : inB n 3 8 = false) : rkB n k = false := by unfold rkB; rw [h]; rfl
theorem rk_is {n k : Int} {b : Bool} (h : inB n 3 8 = true) (hb : inB k 0 ((atR n).length - 1) = b) : rkB n k = b := by unfold rkB; rw [h, hb]; cases b <;> rfl

end Go.Proofs.Ytlnnnjnboknoeab

/- QzA: AllQuiddities: all of it (one text, since a claim holds 60 files at most). -/
namespace Go.Proofs.Ytlnnnjnboknoeab
open Go.RowKit

/- QzM -/
/-- the first difference decides -/
def ltI : List Int → List Int → Bool
  | a :: r, b :: s => if a = b then ltI r s else decide (a < b)
  | _, _ => false
theorem ltI_irr : ∀ l : List Int, ltI l l = false
  | [] => rfl
  | a :: r => by unfold ltI; rw [if_pos rfl]; exact ltI_irr r
theorem ltI_trans : ∀ a b c : List Int, a.length = b.length → b.length = c.length → ltI a b = true → ltI b c = true → ltI a c = true
  | [], _, _, _, _, h, _ => by simp [ltI] at h
  | _ :: _, [], _, h, _, _, _ => by simp at h
  | _ :: _, _ :: _, [], _, h, _, _ => by simp at h
  | x :: a, y :: b, z :: c, h1, h2, h3, h4 => by
    unfold ltI at h3 h4 ⊢
    by_cases e1 : x = y
    · subst e1
      rw [if_pos rfl] at h3
      by_cases e2 : x = z
      · subst e2
        rw [if_pos rfl] at h4 ⊢
        exact ltI_trans a b c (by simpa using h1) (by simpa using h2) h3 h4
      · rw [if_neg e2] at h4 ⊢; exact h4
    · rw [if_neg e1, decide_eq_true_eq] at h3
      by_cases e2 : y = z
      · subst e2
        rw [if_neg e1, decide_eq_true_eq]; exact h3
      · rw [if_neg e2, decide_eq_true_eq] at h4
        rw [if_neg (by omega), decide_eq_true_eq]; omega
theorem ltI_total : ∀ a b : List Int, a.length = b.length → ltI a b = false → ltI b a = false → a = b
  | [], [], _, _, _ => rfl
  | [], _ :: _, h, _, _ => by simp at h
  | _ :: _, [], h, _, _ => by simp at h
  | x :: a, y :: b, h, h1, h2 => by
    unfold ltI at h1 h2
    by_cases e : x = y
    · subst e
      rw [if_pos rfl] at h1 h2
      rw [ltI_total a b (by simpa using h) h1 h2]
    · rw [if_neg e, decide_eq_false_iff_not] at h1
      rw [if_neg (fun e2 => e e2.symm), decide_eq_false_iff_not] at h2
      omega
/-- where it is not behind, and that is not behind a third -/
theorem leI_trans {n : Nat} {a b c : List Int} (ha : a.length = n) (hb : b.length = n) (hc : c.length = n) (h1 : ltI b a = false) (h2 : ltI c b = false) : ltI c a = false := by
  rw [Bool.eq_false_iff]
  intro h
  cases h3 : ltI a b
  · have := ltI_total a b (by omega) h3 h1
    subst this
    rw [h] at h2
    cases h2
  · have := ltI_trans c a b (by omega) (by omega) h h3
    rw [this] at h2
    cases h2
/-- how many of the first k come before q, or are q: counted from the end -/
def posI (q : List Int) (S : List (List Int)) : Nat → Nat
  | 0 => 0
  | k + 1 => if ltI q (rowOf S k) = true then posI q S k else k + 1
theorem posI_le (q : List Int) (S : List (List Int)) : ∀ k, posI q S k ≤ k
  | 0 => Nat.le_refl _
  | k + 1 => by
    unfold posI
    split
    · have := posI_le q S k; omega
    · exact Nat.le_refl _
theorem posI_hi (q : List Int) (S : List (List Int)) : ∀ k j, posI q S k ≤ j → j < k → ltI q (rowOf S j) = true
  | 0, j, _, h => by omega
  | k + 1, j, h, hj => by
    unfold posI at h
    split at h
    · rename_i hx
      by_cases e : j = k
      · subst e; exact hx
      · exact posI_hi q S k j h (by omega)
    · omega
theorem posI_at (q : List Int) (S : List (List Int)) : ∀ k, 0 < posI q S k → ltI q (rowOf S (posI q S k - 1)) = false
  | 0, h => by simp [posI] at h
  | k + 1, h => by
    unfold posI at h ⊢
    split at h
    · rename_i hx
      rw [if_pos hx]
      exact posI_at q S k h
    · rename_i hx
      rw [if_neg hx, Nat.add_sub_cancel]
      exact Bool.eq_false_iff.2 hx
def insI (q : List Int) (S : List (List Int)) : List (List Int) := S.take (posI q S S.length) ++ q :: S.drop (posI q S S.length)
theorem insI_perm (q : List Int) (S : List (List Int)) : (insI q S).Perm (q :: S) := by
  unfold insI
  have h := List.perm_middle (a := q) (l₁ := S.take (posI q S S.length)) (l₂ := S.drop (posI q S S.length))
  rwa [List.take_append_drop] at h
theorem insI_length (q : List Int) (S : List (List Int)) : (insI q S).length = S.length + 1 := (insI_perm q S).length_eq
/-- in order: none comes before one that lies ahead of it -/
def SortI (S : List (List Int)) : Prop := S.Pairwise fun a b => ltI b a = false
theorem insI_sort {n : Nat} {q : List Int} {S : List (List Int)} (hS : SortI S) (hq : q.length = n) (hn : ∀ x ∈ S, x.length = n) : SortI (insI q S) := by
  unfold SortI insI at *
  have hp := posI_le q S S.length
  have hhi := posI_hi q S S.length
  have hat := posI_at q S S.length
  generalize posI q S S.length = p at *
  have hT : (S.take p).Pairwise fun a b => ltI b a = false := hS.sublist (List.take_sublist _ _)
  have hD : (S.drop p).Pairwise fun a b => ltI b a = false := hS.sublist (List.drop_sublist _ _)
  have hcross : ∀ a ∈ S.take p, ∀ b ∈ S.drop p, ltI b a = false := by
    have h := hS
    rw [← List.take_append_drop p S, List.pairwise_append] at h
    exact h.2.2
  rw [List.pairwise_append]
  refine ⟨hT, ?_, ?_⟩
  · rw [List.pairwise_cons]
    refine ⟨fun b hb => ?_, hD⟩
    obtain ⟨i, hi, rfl⟩ := List.getElem_of_mem hb
    rw [List.length_drop] at hi
    have h1 := hhi (p + i) (by omega) (by omega)
    have e : (S.drop p)[i]'(by rw [List.length_drop]; exact hi) = rowOf S (p + i) := by simp [rowOf, show p + i < S.length by omega]
    rw [e, Bool.eq_false_iff]
    intro h2
    have hl : (rowOf S (p + i)).length = n := by rw [← e]; exact hn _ (List.mem_of_mem_drop hb)
    have := ltI_trans q _ q (by omega) (by omega) h1 h2
    rw [ltI_irr] at this
    cases this
  · intro a ha b hb
    rw [List.mem_cons] at hb
    rcases hb with rfl | hb
    · have hpos : 0 < p := by
        cases p with
        | zero => simp at ha
        | succ p => omega
      have h1 := hat hpos
      obtain ⟨i, hi, rfl⟩ := List.getElem_of_mem ha
      rw [List.length_take] at hi
      have e : (S.take p)[i]'(by rw [List.length_take]; exact hi) = S[i]'(by omega) := by simp
      have e2 : rowOf S (p - 1) = S[p - 1]'(by omega) := by simp [rowOf, show p - 1 < S.length by omega]
      rw [e2] at h1
      rw [e]
      by_cases hip : i = p - 1
      · subst hip; exact h1
      · have h2 := (List.pairwise_iff_getElem.1 hS) i (p - 1) (by omega) (by omega) (by omega)
        exact leI_trans (n := n) (hn _ (List.getElem_mem _)) (hn _ (List.getElem_mem _)) hq h2 h1
    · exact hcross a ha b hb
/-- two in order that hold the same are the same -/
theorem sort_unique {n : Nat} : ∀ (S T : List (List Int)), S.Perm T → SortI S → SortI T → (∀ x ∈ S, x.length = n) → S = T
  | [], T, h, _, _, _ => (List.nil_perm.1 h).symm ▸ rfl
  | a :: S, T, h, hS, hT, hn => by
    cases T with
    | nil => exact absurd h.length_eq (by simp)
    | cons b T =>
      have hab : a = b := by
        have ha : a ∈ b :: T := h.mem_iff.1 List.mem_cons_self
        have hb : b ∈ a :: S := h.mem_iff.2 List.mem_cons_self
        have la := hn a List.mem_cons_self
        have lb := hn b hb
        rcases List.mem_cons.1 ha with e | e
        · exact e
        · rcases List.mem_cons.1 hb with e2 | e2
          · exact e2.symm
          · exact ltI_total a b (by omega) ((List.pairwise_cons.1 hT).1 a e) ((List.pairwise_cons.1 hS).1 b e2)
      subst hab
      rw [sort_unique S T (List.Perm.cons_inv h) (List.pairwise_cons.1 hS).2 (List.pairwise_cons.1 hT).2 (fun x hx => hn x (List.mem_cons_of_mem _ hx))]

/- QzS -/
theorem ltI_drop {a b : List Int} {k : Nat} (ha : k < a.length) (hb : k < b.length) : ltI (a.drop k) (b.drop k) = if a.getD k 0 = b.getD k 0 then ltI (a.drop (k + 1)) (b.drop (k + 1)) else decide (a.getD k 0 < b.getD k 0) := by
  rw [List.drop_eq_getElem_cons ha, List.drop_eq_getElem_cons hb]
  have e1 : a.getD k 0 = a[k] := by simp [ha]
  have e2 : b.getD k 0 = b[k] := by simp [hb]
  rw [e1, e2]
  rfl
set_option maxRecDepth 100000 in
set_option maxHeartbeats 1600000 in
theorem spec_caListBefore (A A2 : Option Addr) (c c2 B B2 n : Nat) (l r : List Int) (w : World) (hl : l.length = n) (hr : r.length = n) (h : SlI w B A l) (h2 : SlI w B2 A2 r) (hB : B ≤ w.heap.size) (hB2 : B2 ≤ w.heap.size) (hn : n ≤ 1000) :
    Calls Try.prog 75 #[.slice A n c, .slice A2 n c2] w fun e w' => e = .returned (.bool (ltI l r)) ∧ Below w.heap.size w w' := by
  have Hl := Lib.hid hl
  have Hr := Lib.hid hr
  clear hl hr
  go_enter Try.func75, Try.ntmps75
  go_wp2
  go_loopw [5, 8] (fun _ i wr => ∃ k : Nat, k ≤ n ∧ i = .int .i64 k ∧ ltI (l.drop k) (r.drop k) = ltI l r ∧ Below w.heap.size w wr) (fun _ i _ => n - (intOf i).toNat)
  case atStart => exact ⟨0, Nat.zero_le _, rfl, rfl, Below.refl _ _⟩
  case round =>
    obtain ⟨k, hk, rfl, ht, hb⟩ := hrel
    by_cases hlt : k < n
    · obtain ⟨b, off, rfl, hbB, hc⟩ := h.below (hb.mono hB) (by have := Hl.out; omega)
      have g0 := hc k (by rw [Hl.out]; exact hlt)
      obtain ⟨b2, off2, rfl, hbB2, hc2⟩ := h2.below (hb.mono hB2) (by have := Hr.out; omega)
      have q0 := hc2 k (by rw [Hr.out]; exact hlt)
      have i0 : (0 : Int) ≤ (k : Int) := by omega
      have i1 : (k : Int) < (n : Int) := by omega
      rw [ltI_drop (by rw [Hl.out]; exact hlt) (by rw [Hr.out]; exact hlt)] at ht
      generalize l.getD k 0 = x at *
      generalize r.getD k 0 = u at *
      have Ht := Lib.hid ht
      clear hc hc2 ht
      by_cases hx : x = u
      · subst hx
        rw [if_pos rfl] at Ht
        go_wp2
        go_quiet (fail)
        go_wp2
        go_roundw
        case rel => exact ⟨k + 1, by omega, by go_num, Ht.out, below_drewN hb _⟩
        case measure => simp [intOf]; omega
      · rw [if_neg hx] at Ht
        have hx' : (x != u) = true := by simpa using hx
        go_wp2
        go_quiet (fail)
        go_wp2
        go_quiet (fail)
        go_wp2
        go_ret
        exact ⟨ret_bool Ht.out, below_drewN (below_drewN hb _) _⟩
    · obtain rfl : k = n := by omega
      have e : ltI l r = false := by
        rw [← ht, List.drop_of_length_le (by rw [Hl.out]; exact Nat.le_refl _)]
        unfold ltI
        rfl
      have Heq := Lib.hid e
      clear ht e
      go_wp2
      go_ret
      exact ⟨ret_bool Heq.out.symm, hb⟩

def cmpI : List Int → List Int → Int
  | a :: r, b :: s => if a = b then cmpI r s else sgnI a b
  | _, _ => 0
theorem cmpI_lt : ∀ a b : List Int, decide (cmpI a b < 0) = ltI a b
  | [], _ => by unfold cmpI ltI; rfl
  | _ :: _, [] => by unfold cmpI ltI; rfl
  | a :: r, b :: s => by
    unfold cmpI ltI
    by_cases e : a = b
    · rw [if_pos e, if_pos e]; exact cmpI_lt r s
    · rw [if_neg e, if_neg e]
      unfold sgnI
      by_cases h : a < b
      · simp [h]
      · simp [h]; split <;> simp
theorem cmpI_zero : ∀ a b : List Int, a.length = b.length → (cmpI a b = 0 ↔ a = b)
  | [], [], _ => by simp [cmpI]
  | [], _ :: _, h => by simp at h
  | _ :: _, [], h => by simp at h
  | a :: r, b :: s, h => by
    unfold cmpI
    by_cases e : a = b
    · subst e
      rw [if_pos rfl, cmpI_zero r s (by simpa using h)]
      simp
    · rw [if_neg e]
      constructor
      · intro h2
        unfold sgnI at h2
        split at h2
        · omega
        · split at h2 <;> omega
      · intro h2
        injection h2 with h3
        exact absurd h3 e
theorem cmpI_drop {a b : List Int} {k : Nat} (ha : k < a.length) (hb : k < b.length) : cmpI (a.drop k) (b.drop k) = if a.getD k 0 = b.getD k 0 then cmpI (a.drop (k + 1)) (b.drop (k + 1)) else sgnI (a.getD k 0) (b.getD k 0) := by
  rw [List.drop_eq_getElem_cons ha, List.drop_eq_getElem_cons hb]
  have e1 : a.getD k 0 = a[k] := by simp [ha]
  have e2 : b.getD k 0 = b[k] := by simp [hb]
  rw [e1, e2]
  rfl
set_option maxRecDepth 100000 in
set_option maxHeartbeats 1600000 in
theorem slices_CompareI (A A2 : Option Addr) (c c2 B B2 n : Nat) (l r : List Int) (w : World) (hl : l.length = n) (hr : r.length = n) (h : SlI w B A l) (h2 : SlI w B2 A2 r) (hn : n ≤ 1000) :
    Calls Try.prog 78 #[.slice A n c, .slice A2 n c2] w fun e w' => e = .returned (.int .i64 (cmpI l r)) ∧ w = w' := by
  have Hl := Lib.hid hl
  have Hr := Lib.hid hr
  clear hl hr
  go_enter Try.func78, Try.ntmps78
  go_wp2
  go_loop [5, 6, 7, 8, 11] (fun _ _ _ _ i => ∃ k : Nat, k ≤ n ∧ i = .int .i64 k ∧ cmpI (l.drop k) (r.drop k) = cmpI l r) (fun _ _ _ _ i => n - (intOf i).toNat)
  case atStart => exact ⟨0, Nat.zero_le _, rfl, rfl⟩
  case round =>
    obtain ⟨k, hk, rfl, ht⟩ := hrel
    by_cases hlt : k < n
    · obtain ⟨b, off, rfl, hbB, hc⟩ := h (by have := Hl.out; omega)
      have g0 := hc k (by rw [Hl.out]; exact hlt)
      obtain ⟨b2, off2, rfl, hbB2, hc2⟩ := h2 (by have := Hr.out; omega)
      have q0 := hc2 k (by rw [Hr.out]; exact hlt)
      have i0 : (0 : Int) ≤ (k : Int) := by omega
      have i1 : (k : Int) < (n : Int) := by omega
      rw [cmpI_drop (by rw [Hl.out]; exact hlt) (by rw [Hr.out]; exact hlt)] at ht
      generalize l.getD k 0 = x at *
      generalize r.getD k 0 = u at *
      have Ht := Lib.hid ht
      clear hc hc2 ht
      by_cases hx : x = u
      · subst hx
        rw [if_pos rfl] at Ht
        have e0 : sgnI x x = 0 := by simp [sgnI]
        go_wp2_with fail
        refine (cmp_Compare _ _ _).mono ?_
        rintro e w1 ⟨rfl, rfl⟩
        rw [e0]
        go_wp2
        go_round
        case rel => exact ⟨k + 1, by omega, by go_num, Ht.out⟩
        case measure => simp [intOf]; omega
      · rw [if_neg hx] at Ht
        have e0 : sgnI x u = -1 ∨ sgnI x u = 1 := by unfold sgnI; split; exact .inl rfl; rw [if_pos (by omega)]; exact .inr rfl
        go_wp2_with fail
        refine (cmp_Compare _ _ _).mono ?_
        rintro e w1 ⟨rfl, rfl⟩
        generalize sgnI x u = s at *
        have s0 : (s != 0) = true := by rcases e0 with rfl | rfl <;> rfl
        clear e0
        go_wp2
        go_ret
        exact ⟨by rw [← Ht.out]; rfl, rfl⟩
    · obtain rfl : k = n := by omega
      have e : cmpI l r = 0 := by
        rw [← ht, List.drop_of_length_le (by rw [Hl.out]; exact Nat.le_refl _)]
        unfold cmpI
        rfl
      have Heq := Lib.hid e
      clear ht e
      go_wp2
      go_ret
      exact ⟨by rw [Heq.out]; rfl, rfl⟩

/- QzT -/
/-- put in order one by one -/
def QS (T : List (List Int)) : Nat → List (List Int)
  | 0 => []
  | k + 1 => insI (rowOf T k) (QS T k)
theorem QS_perm (T : List (List Int)) : ∀ k, k ≤ T.length → (QS T k).Perm (T.take k)
  | 0, _ => by simp [QS]
  | k + 1, h => by
    have h1 := insI_perm (rowOf T k) (QS T k)
    have h2 := (QS_perm T k (by omega)).cons (rowOf T k)
    have e : rowOf T k = T[k]'(by omega) := by simp [rowOf, show k < T.length by omega]
    rw [List.take_succ_eq_append_getElem (by omega), ← e]
    exact h1.trans (h2.trans (List.perm_append_comm (l₁ := [rowOf T k]) (l₂ := T.take k)))
theorem QS_length (T : List (List Int)) (k : Nat) (h : k ≤ T.length) : (QS T k).length = k := by
  rw [(QS_perm T k h).length_eq, List.length_take]; omega
theorem QS_rows {T : List (List Int)} {m : Nat} (hT : ∀ x ∈ T, x.length = m) (k : Nat) (h : k ≤ T.length) : ∀ x ∈ QS T k, x.length = m := fun x hx => hT x (List.mem_of_mem_take ((QS_perm T k h).mem_iff.1 hx))
theorem QS_sort {T : List (List Int)} {m : Nat} (hT : ∀ x ∈ T, x.length = m) : ∀ k, k ≤ T.length → SortI (QS T k)
  | 0, _ => List.Pairwise.nil
  | k + 1, h => by
    have hq : (rowOf T k).length = m := hT _ (by
      have e : rowOf T k = T[k]'(by omega) := by simp [rowOf, show k < T.length by omega]
      rw [e]
      exact List.getElem_mem _)
    exact insI_sort (QS_sort hT k (by omega)) hq (QS_rows hT k (by omega))
/-- the quiddities of all triangulations, as these lie -/
def qzT (m : Nat) : List (List Int) := (altL m).map (quidF m)
def qzR (n : Int) : List (List Int) := if inB n 3 8 = true then QS (qzT n.toNat) (qzT n.toNat).length else []
theorem qzT_rows (m : Nat) : ∀ x ∈ qzT m, x.length = m := fun x hx => by
  obtain ⟨d, _, rfl⟩ := List.mem_map.1 hx
  exact quidF_length m d
/-- whatever is in order and holds the same is that -/
theorem qz_unique {m : Nat} {S : List (List Int)} (hp : S.Perm (qzT m)) (hs : SortI S) : S = QS (qzT m) (qzT m).length := by
  have h1 := QS_perm (qzT m) _ (Nat.le_refl _)
  rw [List.take_length] at h1
  exact sort_unique (n := m) S _ (hp.trans h1.symm) hs (QS_sort (qzT_rows m) _ (Nat.le_refl _)) (fun x hx => qzT_rows m x (hp.mem_iff.1 hx))
/-- the program's rows, k of them laid -/
def qzH (m k : Nat) : List (List Int) := (qzT m).take k ++ List.replicate ((qzT m).length - k) []
theorem qzH_length (m k : Nat) (h : k ≤ (qzT m).length) : (qzH m k).length = (qzT m).length := by simp [qzH]; omega
theorem qzH_zero (m : Nat) : qzH m 0 = List.replicate (qzT m).length [] := by simp [qzH]
theorem qzH_all (m : Nat) : qzH m (qzT m).length = qzT m := by simp [qzH]
theorem qzH_set (m k : Nat) (h : k < (qzT m).length) : (qzH m k).set k (rowOf (qzT m) k) = qzH m (k + 1) := by
  unfold qzH
  have e : rowOf (qzT m) k = (qzT m)[k] := by simp [rowOf, h]
  rw [List.set_append_right _ _ (by simp; omega)]
  have e1 : k - ((qzT m).take k).length = 0 := by simp; omega
  rw [e1, show (qzT m).length - k = ((qzT m).length - (k + 1)) + 1 by omega, List.replicate_succ, List.set_cons_zero, List.take_succ_eq_append_getElem h, List.append_assoc, e]
  rfl

/- SrtQW -/
section
variable {N : Nat}
/-- the value of a row, what is told of two rows -/
def encQ (rs : List Value) (i : Fin (N + 1)) : Value := rvOf rs i.1
def cmpQ (Ls : List (List Int)) (i j : Fin (N + 1)) : Int := cmpI (rowOf Ls i.1) (rowOf Ls j.1)
theorem ltQ_iff (Ls : List (List Int)) (x y : Fin (N + 1)) : Go.Proofs.ltOf (cmpQ Ls) x y = ltI (rowOf Ls x.1) (rowOf Ls y.1) := by
  rw [← cmpI_lt]
  rfl
theorem swoQ (Ls : List (List Int)) (m : Nat) (h : ∀ j, j < N + 1 → (rowOf Ls j).length = m) : Go.Sort.SWO (Go.Proofs.ltOf (cmpQ (N := N) Ls)) where
  irrefl x := by rw [ltQ_iff]; exact ltI_irr _
  trans x y z h1 h2 := by
    rw [ltQ_iff] at *
    exact ltI_trans _ _ _ (by rw [h _ x.2, h _ y.2]) (by rw [h _ y.2, h _ z.2]) h1 h2
  ntrans x y z h1 h2 := by
    rw [ltQ_iff] at *
    exact leI_trans (h _ z.2) (h _ y.2) (h _ x.2) h2 h1
theorem grown_sort {α : Type} [Inhabited α] (enc : α → Value) (w : World) (g m : Nat) (d : Array α) (os : Array Obj) : w.grownBy (Go.Proofs.sortWorld enc w g 0 m d os) (some g) where
  os := rfl
  tape := rfl
  output := rfl
  size := by
    unfold Go.Proofs.sortWorld
    rw [Go.Sort.size_grow]
    simp [Go.Sort.putRow, Go.Sort.mapBlock, Go.Sort.ahead]
  block := fun k hk hne => by
    unfold Go.Proofs.sortWorld
    rw [Go.Sort.heap_grow_old _ _ (by simpa [Go.Sort.putRow, Go.Sort.mapBlock, Go.Sort.ahead] using hk)]
    show (w.heap.modify g _)[k]? = _
    rw [Array.getElem?_modify, if_neg (fun e => hne (by rw [e]))]
theorem own_sort {α : Type} [Inhabited α] (enc : α → Value) {w : World} {B e g n c m : Nat} {os : Array Obj} {xs : List Value} (d : Array α) (hn : d.size = n) (h : w.ownsRow B e 1 (.slice (some ⟨g, 0, none⟩) n c) n xs) :
    (Go.Proofs.sortWorld enc w g 0 m d os).ownsRow B e 1 (.slice (some ⟨g, 0, none⟩) n c) n (d.toList.map enc) := by
  rcases h.2 with ⟨h', _⟩ | ⟨g', cap, cur, h', hb, hh, hc, hcm, hs, ht⟩
  · cases h'
  · cases h'
    refine ⟨by simp [hn], .inr ⟨g, c, Go.Sort.putCells enc 0 d cur, rfl, hb, ?_, hc, hcm, ?_, ?_⟩⟩
    · have hlt : g < w.heap.size := by
        have := Array.getElem?_eq_some_iff.1 hh
        exact this.1
      unfold Go.Proofs.sortWorld
      rw [Go.Sort.heap_grow_old _ _ (by simpa [Go.Sort.putRow, Go.Sort.mapBlock, Go.Sort.ahead] using hlt)]
      show (w.heap.modify g _)[g]? = _
      rw [Array.getElem?_modify, if_pos rfl, hh]
      rfl
    · simp [Go.Sort.putCells, hs]
    · refine List.ext_getElem? fun t => ?_
      by_cases hlt : t < n
      · rw [List.getElem?_take_of_lt (by omega), Array.getElem?_toList, List.getElem?_map, Array.getElem?_toList]
        have hcs : t < cur.size := by omega
        simp [Go.Sort.putCells, hcs, hn, hlt]
      · rw [List.getElem?_eq_none (by simp; omega), List.getElem?_eq_none (by simp; omega)]
theorem holdsQ {w : World} {B e g n c : Nat} {rs : List Value} (hn : n = N + 1) (h : w.ownsRow B e 1 (.slice (some ⟨g, 0, none⟩) n c) n rs) : Go.Sort.Holds (encQ (N := N) rs) w g 0 (List.finRange (N + 1)).toArray := by
  intro j hj
  have hj' : j < N + 1 := by simpa using hj
  rw [Nat.zero_add]
  refine ⟨?_, h.frozenAt j⟩
  have hl := h.1
  rw [h.cellAt j (by omega)]
  have e1 : ((List.finRange (N + 1)).toArray)[j]! = ⟨j, hj'⟩ := by
    rw [getElem!_pos _ j hj]
    simp
  rw [e1]
  unfold encQ rvOf
  rw [List.getD_eq_getElem?_getD, List.getElem?_eq_getElem (show j < rs.length by omega), Option.getD_some]
end

/- SrtQL -/
section
open Go.Shelf
def srtQR : Go.Shelf.Ren := ⟨fun | 6 => 94 | 14 => 109 | 15 => 110 | 20 => 116 | 21 => 117 | 22 => 118 | 23 => 119 | 24 => 120 | 25 => 121 | 26 => 122 | 27 => 123 | 28 => 124 | 29 => 125 | 46 => 127 | 47 => 128 | 48 => 129 | 49 => 130 | 50 => 131 | 57 => 140 | n => n,
  fun | 0 => 0 | 3 => 3 | 4 => 4 | 5 => 5 | 9 => 9 | 22 => 70 | 24 => 27 | 25 => 75 | 39 => 94 | 45 => 100 | 46 => 101 | 50 => 22 | 53 => 107 | 55 => 109 | 66 => 111 | 70 => 115 | 76 => 122 | 77 => 123 | n => n, fun | n => n⟩
theorem srtQL : SlLaysF.n6 Try.prog srtQR := {
  mixed := by kernel_rfl
  f6 := ⟨Try.f94.name, by decide, Try.func94.trans (congrArg some (by kernel_rfl))⟩
  f14 := ⟨Try.f109.name, by decide, Try.func109.trans (congrArg some (by kernel_rfl))⟩
  f15 := Try.func110.trans (congrArg some (by kernel_rfl))
  f20 := ⟨Try.f116.name, by decide, Try.func116.trans (congrArg some (by kernel_rfl))⟩
  f21 := ⟨Try.f117.name, by decide, Try.func117.trans (congrArg some (by kernel_rfl))⟩
  f22 := ⟨Try.f118.name, by decide, Try.func118.trans (congrArg some (by kernel_rfl))⟩
  f23 := ⟨Try.f119.name, by decide, Try.func119.trans (congrArg some (by kernel_rfl))⟩
  f24 := ⟨Try.f120.name, by decide, Try.func120.trans (congrArg some (by kernel_rfl))⟩
  f25 := ⟨Try.f121.name, by decide, Try.func121.trans (congrArg some (by kernel_rfl))⟩
  f26 := ⟨Try.f122.name, by decide, Try.func122.trans (congrArg some (by kernel_rfl))⟩
  f27 := ⟨Try.f123.name, by decide, Try.func123.trans (congrArg some (by kernel_rfl))⟩
  f28 := Try.func124.trans (congrArg some (by kernel_rfl))
  f29 := Try.func125.trans (congrArg some (by kernel_rfl))
  f46 := ⟨Try.f127.name, by decide, Try.func127.trans (congrArg some (by kernel_rfl))⟩
  f47 := Try.func128.trans (congrArg some (by kernel_rfl))
  f48 := Try.func129.trans (congrArg some (by kernel_rfl))
  f49 := ⟨Try.f130.name, by decide, Try.func130.trans (congrArg some (by kernel_rfl))⟩
  f50 := ⟨Try.f131.name, by decide, Try.func131.trans (congrArg some (by kernel_rfl))⟩
  f57 := ⟨Try.f140.name, by decide, Try.func140.trans (congrArg some (by kernel_rfl))⟩
  t0 := Try.underlying0
  a0 := Try.isAgg0
  z0 := Try.sizeOf0
  v0 := Try.zeroValue0
  t3 := Try.underlying3
  a3 := Try.isAgg3
  z3 := Try.sizeOf3
  v3 := Try.zeroValue3
  t4 := Try.underlying4
  a4 := Try.isAgg4
  z4 := Try.sizeOf4
  v4 := Try.zeroValue4
  t5 := Try.underlying5
  a5 := Try.isAgg5
  z5 := Try.sizeOf5
  v5 := Try.zeroValue5
  t9 := Try.underlying9
  a9 := Try.isAgg9
  z9 := Try.sizeOf9
  v9 := Try.zeroValue9
  t22 := Try.underlying70
  a22 := Try.isAgg70
  z22 := Try.sizeOf70
  v22 := Try.zeroValue70
  t25 := Try.underlying75
  a25 := Try.isAgg75
  z25 := Try.sizeOf75
  v25 := Try.zeroValue75
  t39 := Try.underlying94
  a39 := Try.isAgg94
  z39 := Try.sizeOf94
  v39 := Try.zeroValue94
  t45 := Try.underlying100
  a45 := Try.isAgg100
  z45 := Try.sizeOf100
  v45 := Try.zeroValue100
  t46 := Try.underlying101
  a46 := Try.isAgg101
  z46 := Try.sizeOf101
  v46 := Try.zeroValue101
  t50 := Try.underlying22
  a50 := Try.isAgg22
  z50 := Try.sizeOf22
  v50 := Try.zeroValue22
  t53 := Try.underlying107
  a53 := Try.isAgg107
  z53 := Try.sizeOf107
  v53 := Try.zeroValue107
  t55 := Try.underlying109
  a55 := Try.isAgg109
  z55 := Try.sizeOf109
  v55 := Try.zeroValue109
  t66 := Try.underlying111
  a66 := Try.isAgg111
  z66 := Try.sizeOf111
  v66 := Try.zeroValue111
  t70 := Try.underlying115
  a70 := Try.isAgg115
  z70 := Try.sizeOf115
  v70 := Try.zeroValue115
  t76 := Try.underlying122
  a76 := Try.isAgg122
  z76 := Try.sizeOf122
  v76 := Try.zeroValue122
  t77 := Try.underlying123
  a77 := Try.isAgg123
  z77 := Try.sizeOf123
  v77 := Try.zeroValue123
  a24 := Try.isAgg27
  z24 := Try.sizeOf27
}
end

/- SrtQI -/
theorem extract_all {α : Type} (d : Array α) (n : Nat) (h : d.size = n) : d.extract 0 n = d := by subst h; simp
theorem cmpLaysQ {B g c N m : Nat} {rs : List Value} {Ls : List (List Int)} {w : World} (hN : Ls.length = N + 1) (hm : ∀ j, j < N + 1 → (rowOf Ls j).length = m) (hm9 : m ≤ 1000) (ho : OwnSS w B (some ⟨g, 0, none⟩) c rs Ls) (size : Nat) :
    Go.Proofs.CmpLays1 Try.prog 78 #[] (encQ (N := N) rs) (cmpQ Ls) g 0 size w := by
  intro k os dk _ x y
  have far : ∀ i : Fin (N + 1), ∃ A c, encQ rs i = .slice A m c ∧ SlI (Go.Proofs.sortWorld (encQ (N := N) rs) w g 0 k dk os) (Go.Proofs.sortWorld (encQ (N := N) rs) w g 0 k dk os).heap.size A (rowOf Ls i.1) := fun i => by
    have h1 := ho.2.2.1 i.1 (by rw [hN]; exact i.2)
    have h2 := own_far h1 (grown_sort (encQ (N := N) rs) w g k dk os) (fun j hj e => own_ne h1 ho.2.1 (by decide) j hj e)
    obtain ⟨A, c, e⟩ := own_form h2
    rw [e] at h2
    refine ⟨A, c, ?_, SlI.of_own h2⟩
    unfold encQ
    rw [e, hm _ i.2]
  obtain ⟨A1, c1, e1, s1⟩ := far x
  obtain ⟨A2, c2, e2, s2⟩ := far y
  rw [e1, e2]
  refine Calls.mono (slices_CompareI A1 A2 c1 c2 _ _ m (rowOf Ls x.1) (rowOf Ls y.1) _ (hm _ x.2) (hm _ y.2) s1 s2 hm9) ?_
  rintro e w' ⟨he, hw⟩
  exact ⟨he, 0, #[], by rw [← hw, Go.Sort.grow_empty]; rfl⟩
theorem impl_SortQ (B g c N m : Nat) (rs : List Value) (Ls : List (List Int)) (w : World) (hN : Ls.length = N + 1) (hm : ∀ j, j < N + 1 → (rowOf Ls j).length = m) (hm9 : m ≤ 1000) (hn : N ≤ 1000000) (hB : B ≤ w.heap.size)
    (ho : OwnSS w B (some ⟨g, 0, none⟩) c rs Ls) :
    Calls Try.prog 94 #[.slice (some ⟨g, 0, none⟩) (N + 1) c, .func (.func 78) #[] #[]] w fun e w' => e = .returned (.tuple #[]) ∧
      ∃ (rs' : List Value) (Ls' : List (List Int)), Ls'.Perm Ls ∧ SortI Ls' ∧ OwnSS w' B (some ⟨g, 0, none⟩) c rs' Ls' ∧ Below B w w' := by
  have hout := ho.2.1
  rw [hN] at hout
  have hbg : B ≤ g ∧ g < w.heap.size := hout.lt g rfl
  have eg : ∀ args w, (callFunc 78 args).run Try.prog w = .ok (.enter 78 args) w := enters_of Try.func78 (by kernel_rfl) rfl
  have hsz : (List.finRange (N + 1)).toArray.size = N + 1 := by simp
  have hcm := cmpLaysQ hN hm hm9 ho (N + 1)
  have hk := holdsQ (N := N) rfl hout
  have h1 : OneCell (encQ (N := N) rs) := fun i => by
    obtain ⟨A, c, e⟩ := own_form (ho.2.2.1 i.1 (by rw [hN]; exact i.2))
    unfold encQ
    rw [e]
    rfl
  have hcon := Any.slices_SortFunc srtQL (encQ (N := N) rs) h1 (cmpQ Ls) (swoQ Ls m hm) 78 #[] g 0 c (List.finRange (N + 1)).toArray w eg (by rw [hsz]; exact hcm) hk hbg.2 (by rw [hsz]; omega)
  rw [hsz] at hcon
  refine Calls.mono hcon ?_
  rintro e w' ⟨rfl, d', k, os, hp, hs, rfl⟩
  obtain ⟨p1, _, p3⟩ := hp
  have hd : d'.size = N + 1 := p1.trans hsz
  rw [extract_all d' _ hd, extract_all _ _ hsz] at p3
  have hL : d'.toList.length = N + 1 := by simpa using hd
  have hperm : d'.toList.Perm (List.finRange (N + 1)) := p3
  have hall : (List.finRange (N + 1)).map (fun i => rowOf Ls i.1) = Ls := by
    refine List.ext_getElem (by simp [hN]) fun j h1 h2 => ?_
    simp [rowOf, h2]
  have hnd : d'.toList.Nodup := hperm.nodup_iff.2 (List.nodup_finRange _)
  have hgr := grown_sort (encQ (N := N) rs) w g k d' os
  have hrv : ∀ j (hj : j < d'.toList.length), rvOf (d'.toList.map (encQ rs)) j = rvOf rs (d'.toList[j]).1 := fun j hj => by
    conv => lhs; unfold rvOf
    rw [List.getD_eq_getElem?_getD, List.getElem?_map, List.getElem?_eq_getElem hj]
    rfl
  have hrw : ∀ j (hj : j < d'.toList.length), rowOf (d'.toList.map fun i => rowOf Ls i.1) j = rowOf Ls (d'.toList[j]).1 := fun j hj => by
    conv => lhs; unfold rowOf
    rw [List.getD_eq_getElem?_getD, List.getElem?_map, List.getElem?_eq_getElem hj]
    rfl
  refine ⟨rfl, d'.toList.map (encQ rs), d'.toList.map (fun i => rowOf Ls i.1), ?_, ?_, ⟨by simp, ?_, fun j hj => ?_, fun i j hi hj hij q hq => ?_⟩, ?_⟩
  · have := hperm.map (fun i => rowOf Ls i.1)
    rwa [hall] at this
  · unfold SortI
    rw [List.pairwise_map, List.pairwise_iff_getElem]
    intro i j hi hj hij
    have := hs i j (Nat.zero_le _) hij (by simpa [hd] using hj)
    rw [ltQ_iff, getElem!_pos d' j (by simpa using hj), getElem!_pos d' i (by simpa using hi)] at this
    simpa using this
  · rw [List.length_map, hL]
    exact own_sort (encQ (N := N) rs) d' hd hout
  · rw [List.length_map] at hj
    rw [hrv j hj, hrw j hj]
    have h1 := ho.2.2.1 (d'.toList[j]).1 (by rw [hN]; exact (d'.toList[j]).2)
    exact own_far h1 hgr (fun q hq e => own_ne h1 ho.2.1 (by decide) q hq e)
  · rw [List.length_map] at hi hj
    rw [hrv i hi] at hq
    rw [hrv j hj]
    refine ho.2.2.2 _ _ (by rw [hN]; exact (d'.toList[i]).2) (by rw [hN]; exact (d'.toList[j]).2) (fun e => hij ?_) q hq
    rcases Nat.lt_trichotomy i j with hlt | hlt | hlt
    · exact absurd (Fin.ext e) (List.pairwise_iff_getElem.1 hnd i j hi hj hlt)
    · exact hlt
    · exact absurd (Fin.ext e.symm) (List.pairwise_iff_getElem.1 hnd j i hj hi hlt)
  · exact (Below.refl B w).grown hgr hB (fun q hq => by have h1 : g = q := Option.some.inj hq; omega)

/- QzI -/
theorem alt_pos : ∀ n : Fin 9, 3 ≤ (n : Nat) → 1 ≤ (altL n).length := by decide +kernel
theorem qz_len {m : Nat} : (qzT m).length = (altL m).length := by simp [qzT]
theorem alt_tri {m : Nat} (h3 : 3 ≤ m) (h8 : m ≤ 8) {k : Nat} (hk : k < (altL m).length) : (rowD (altL m) k).length ≤ 5 ∧ triB (m : Int) (rowD (altL m) k) = true := by
  have e : rowD (altL m) k = (altL m)[k] := by simp [rowD, hk]
  have := alt_row ⟨m, by omega⟩ h3 ((altL m)[k]) (List.getElem_mem hk)
  rw [e]
  exact ⟨by have := this.1; simp at this; omega, this.2⟩
theorem qz_row {m k : Nat} (hk : k < (altL m).length) : rowOf (qzT m) k = quidF m (rowD (altL m) k) := by
  unfold rowOf qzT rowD
  simp [hk]
theorem qzR_yes {m : Nat} (h : inB (m : Int) 3 8 = true) : qzR (m : Int) = QS (qzT m) (qzT m).length := by unfold qzR; rw [if_pos h, Int.toNat_natCast]
theorem qzR_no {n : Int} (h : inB n 3 8 = false) : qzR n = [] := by unfold qzR; rw [h]; rfl

set_option maxRecDepth 100000 in
set_option maxHeartbeats 3200000 in
theorem impl_AllQuiddities (n : Int) (w : World) : Calls Try.prog 76 #[.int .i64 n] w (RetSS w (qzR n) (inB n 3 8)) := by
  have HA := Lib.hid (impl_AllTriangulations n w)
  unfold RetDD at HA
  cases hi : inB n 3 8
  · have hno : ∀ w', Below w.heap.size w w' → RetSS w (qzR n) false (.returned (.tuple #[.slice none 0 0, .bool false])) w' := fun w' hb => by
      rw [qzR_no hi]
      exact ⟨none, 0, [], rfl, OwnSS.nil_, hb⟩
    have Hno := Lib.hid hno
    rw [hi] at HA
    generalize (atR n).length = q at *
    clear hno hi
    go_enter Try.func76, Try.ntmps76
    go_wp2_with fail
    refine HA.out.mono ?_
    rintro e w1 ⟨A1, c1, rs1, rfl, _, hb⟩
    have HE := Lib.hid (Hno.out _ hb)
    clear Hno hb
    go_wp2
    go_ret2
    exact HE.out
  · obtain ⟨n3, n8⟩ := inB_iff'.1 hi
    obtain ⟨m, rfl⟩ := Int.eq_ofNat_of_zero_le (show 0 ≤ n by omega)
    have hat := atR_yes hi
    rw [hat, hi] at HA
    have hq := qzR_yes hi
    rw [hq]
    obtain ⟨K, hK⟩ : ∃ K, (altL m).length = K := ⟨_, rfl⟩
    have hK1 : 1 ≤ K := by rw [← hK]; exact alt_pos ⟨m, by omega⟩ (by simp; omega)
    have hK2 : K ≤ 132 := by rw [← hK]; exact alt_bd ⟨m, by omega⟩
    have hqK : (qzT m).length = K := by rw [qz_len, hK]
    have HqK := Lib.hid hqK
    have HK := Lib.hid hK
    rw [hK] at HA
    obtain ⟨i0', hii, hz0, hz1, hz3⟩ := info_parts infoSl
    have hbytes : i0'.bytes * K ≤ 281474976710656 := by rw [hz3]; omega
    have hmax : K ≤ maxLen := by unfold maxLen; omega
    rw [hqK]
    have hqs : (QS (qzT m) K).length = K := QS_length _ _ (by rw [hqK]; exact Nat.le_refl _)
    have Hqs := Lib.hid hqs
    clear hat hi hq hK hqK hqs
    go_enter Try.func76, Try.ntmps76
    go_wp2_with fail
    refine HA.out.mono ?_
    rintro e w1 ⟨A1, c1, rs1, rfl, ho1, hb1⟩
    have O1 := Lib.hid ho1
    have B1 := Lib.hid hb1
    clear ho1 hb1 HA
    go_wp2_with (at_make; refine wpList_make_full _ rfl _ _ _ rfl w1.heap.size 27 i0' (.slice none 0 0) 1 Try.underlying70 hii hz0 hz1 _ _ _ _ K rfl rfl rfl rfl hbytes hmax (Nat.le_refl _) ?_; intro w3 hown3 hgrow3)
    have hb3 : Below w1.heap.size w1 w3 := (Below.refl _ _).grown hgrow3 (Nat.le_refl _) (fun _ e => by cases e)
    rw [zerosSS] at hown3
    have hO3 := OwnSS.zeros hown3
    rw [← HqK.out, ← qzH_zero m, HqK.out] at hO3
    have HO3 := Lib.hid hO3
    have Hb3 := Lib.hid hb3
    clear hown3 hgrow3 hb3 hO3 hii hz0 hz1 hz3 hbytes hmax
    go_wp2
    go_loopw [7, 8, 21] (fun _ _ k wr => ∃ (t : Nat) (rs : List Value), t ≤ K ∧ k = .int .i64 t ∧ OwnSS wr w1.heap.size (some ⟨w1.heap.size, 0, none⟩) K rs (qzH m t) ∧ Below w1.heap.size w1 wr) (fun _ _ k _ => K - (intOf k).toNat)
    case atStart => exact ⟨0, _, Nat.zero_le _, rfl, HO3.out, Hb3.out⟩
    case round =>
      clear HO3 Hb3
      obtain ⟨t, rs, ht, rfl, ho, hb⟩ := hrel
      have hHl := qzH_length m t (by rw [HqK.out]; exact ht)
      rw [HqK.out] at hHl
      by_cases hlt : t < K
      · have hD := O1.out.kept hb
        obtain ⟨gd, hA1, _, _, hcd⟩ := hD.outer (by rw [HK.out]; omega)
        have hrow := hD.2.2.1 t (by rw [HK.out]; exact hlt)
        obtain ⟨Aj, cj, ej⟩ := own_form hrow
        have x0 := hcd t (by rw [HK.out]; exact hlt)
        rw [ej] at x0 hrow
        subst hA1
        obtain ⟨r5, rtri⟩ := alt_tri (m := m) (by omega) (by omega) (k := t) (by rw [HK.out]; exact hlt)
        have hqr := qz_row (m := m) (k := t) (by rw [HK.out]; exact hlt)
        have hql : quidL (m : Int) (rowD (altL m) t) = quidF m (rowD (altL m) t) := by unfold quidL; rw [if_pos rtri, Int.toNat_natCast]
        have HQ := Lib.hid (impl_QuiddityOf (m : Int) Aj cj wr.heap.size (rowD (altL m) t) wr (SlD.of_own hrow) (Nat.le_refl _) (by omega) (own_cap hrow))
        unfold RetI at HQ
        rw [hql, ← hqr, rtri] at HQ
        have hset := qzH_set m t (by rw [HqK.out]; exact hlt)
        have hlr : (rowOf (qzT m) t).length = m := by rw [hqr]; exact quidF_length _ _
        have i0 : (0 : Int) ≤ (t : Int) := by omega
        have i1 : (t : Int) < (K : Int) := by omega
        have Ho := Lib.hid ho
        have Hb := Lib.hid hb
        have Hset := Lib.hid hset
        have Hlr := Lib.hid hlr
        have HHl := Lib.hid hHl
        clear ho hb hD hrow hcd ej hset hql hqr rtri hlr hHl
        generalize (rowD (altL m) t).length = dl at *
        generalize rowOf (qzT m) t = L at *
        go_wp2_with fail
        refine HQ.out.mono ?_
        rintro e w4 ⟨A4, c4, rfl, ho4, hb4⟩
        have o5 := Ho.out.kept hb4
        have b5 := below_kept Hb.out (Nat.le_refl _) hb4
        have hst := o5.store (t := t) (r := .slice A4 L.length c4) (L := L) (by rw [HHl.out]; exact hlt) (ho4.mono Hb.out.size) (fun j hj _ q hq e => by
          have h1 := (ho4.lt q hq).1
          have h2 := (Ho.out.2.2.1 j hj).lt q e.symm
          omega)
        rw [Hset.out] at hst
        have hcell : ∃ u, w4.cell? ⟨w1.heap.size, t, none⟩ = some u := by
          obtain ⟨g, hg, _, _, hc⟩ := o5.outer (by rw [HHl.out]; omega)
          injection hg with hg1
          injection hg1 with hg2
          subst hg2
          exact ⟨_, hc t (by rw [HHl.out]; exact hlt)⟩
        obtain ⟨u, hcell⟩ := hcell
        have hfro := o5.2.1.frozenAt t
        have S5 := Lib.hid hst.1
        have D5 := Lib.hid (below_grown b5 hst.2 (Nat.le_refl _) (fun j hj => by have h1 : w1.heap.size = j := Option.some.inj hj; omega))
        clear hst o5 b5 ho4 hb4 x0 HQ Ho Hb
        generalize L.length = ll at *
        go_wp2
        go_roundw
        case rel => exact ⟨t + 1, _, by omega, by go_num, S5.out, D5.out⟩
        case measure => simp [intOf]; omega
      · obtain rfl : t = K := by omega
        have hall := qzH_all m
        rw [HqK.out] at hall
        rw [hall] at ho
        obtain ⟨N, rfl⟩ : ∃ N, t = N + 1 := ⟨t - 1, by omega⟩
        have hrows : ∀ j, j < N + 1 → (rowOf (qzT m) j).length = m := fun j hj => by
          have e : rowOf (qzT m) j = (qzT m)[j]'(by rw [HqK.out]; exact hj) := by simp [rowOf, show j < (qzT m).length by rw [HqK.out]; exact hj]
          rw [e]
          exact qzT_rows m _ (List.getElem_mem _)
        have HS := Lib.hid (impl_SortQ w1.heap.size w1.heap.size (N + 1) N m rs (qzT m) wr HqK.out hrows (by omega) (by omega) hb.size ho)
        have Hb := Lib.hid hb
        clear ho hb hall hrows hHl
        go_wp2_with fail
        refine HS.out.mono ?_
        rintro e w5 ⟨rfl, rs', Ls', hp, hs, ho5, hb5⟩
        have hu := qz_unique hp hs
        rw [HqK.out] at hu
        subst hu
        have HE := Lib.hid (show RetSS w (QS (qzT m) (N + 1)) true (.returned (.tuple #[.slice (some ⟨w1.heap.size, 0, none⟩) (N + 1) (N + 1), .bool true])) w5 from
          ⟨_, _, rs', by rw [Hqs.out], ho5.mono B1.out.size, B1.out.trans ((Hb.out.trans hb5).mono B1.out.size)⟩)
        clear hp hs ho5 hb5 HS
        go_wp2
        go_ret2
        exact HE.out

/- SSB -/
/-- a slice's value leads to the values given -/
def Src (w : World) (A : Option Addr) (m c : Nat) (rs2 : List Value) : Prop :=
  rs2.length = m ∧ ((A = none ∧ m = 0 ∧ c = 0) ∨ ∃ g off, A = some ⟨g, off, none⟩ ∧ ∀ j u, rs2[j]? = some u → w.cell? ⟨g, off + j, none⟩ = some u)
section
variable {ops : Array Oper} {rest : List Oper} {o : Oper} {a : Act} {Q : Exit → Act → World → Prop}
theorem wp_appendSS {K : Act → World → Prop} (w : World) (s x : Operand) (ho : o.op = .call { callee := .builtin .append, args := #[s, x], argTypes := #[70, 70] })
    (base : Nat) (v : Value) (n : Nat) (rs : List Value) (hs : a.eval s = v) (hown : w.ownsRow base 27 1 v n rs) (A : Option Addr) (m c : Nat) (rs2 : List Value) (hx : a.eval x = .slice A m c)
    (hr : Src w A m c rs2) (h1 : ∀ u ∈ rs2, u.oneCell' = true) (hlen : n ≤ 1000000) (hlm : m ≤ 1000000) (hbase : base ≤ w.heap.size)
    (h : ∀ A' c' w', w'.ownsRow base 27 1 (.slice A' (n + m) c') (n + m) (rs ++ rs2) → w.grownBy w' v.ownBlock → K (a.put o.dst (.slice A' (n + m) c')) w') :
    o.wp Try.prog a w K Q := by
  obtain ⟨i0, hi, hz0, hz1, hz2⟩ := info_parts infoSl
  have fin : ∀ v' w', w'.ownsRow base 27 1 v' (n + m) (rs ++ rs2) → w.grownBy w' v.ownBlock → K (a.put o.dst v') w' := by
    intro v' w' ho' hg
    obtain ⟨A', c', rfl⟩ := own_form ho'
    exact h A' c' w' ho' hg
  obtain ⟨hl, ⟨rfl, rfl, rfl⟩ | ⟨g, off, rfl, hc⟩⟩ := hr
  · obtain rfl : rs2 = [] := List.eq_nil_of_length_eq_zero hl
    have hrun : (Builtin.append_ #[70, 70] o.type #[v, .slice none 0 0]).run Try.prog w = .ok v w := by
      rcases hown.2 with ⟨rfl, hn⟩ | ⟨g, cap, cur, rfl, _, _, hnc, _⟩
      · simp [Builtin.append_, run_underlying Try.underlying70, sizeOf, typeInfo, hi, Builtin.lenOf, Builtin.firstCells]
      · simp [Builtin.append_, run_underlying Try.underlying70, sizeOf, typeInfo, hi, Builtin.lenOf, Builtin.firstCells, hnc, storeCells]
    unfold Oper.wp execOp
    simp only [ho, resolve, invoke, builtin, Sem.run_bind, Sem.run_pure, Result.andThen_ok, List.map_toArray, List.map_cons, List.map_nil, hs, hx, hrun]
    exact fin v w (by simpa using hown) (World.grownBy.refl w _)
  · exact wp_append_own w s x 70 ho base 27 i0 (.slice none 0 0) 1 24 Try.underlying70 hi hz0 hz1 hz2 rfl (by decide) v n rs hs hown ⟨g, off, none⟩ m c rs2 hx (by rw [hl, Nat.mul_one])
      (fun j u hu => by rw [Addr.add_lit]; exact hc j u hu) h1
      (by unfold maxLen; omega) (by omega) hbase (fun v' w' h3 h4 _ => fin v' w' h3 h4)
theorem wpList_appendSS (w : World) (hgd : o.guard = none) (s x : Operand) (ho : o.op = .call { callee := .builtin .append, args := #[s, x], argTypes := #[70, 70] })
    (base : Nat) (v : Value) (n : Nat) (rs : List Value) (hs : a.eval s = v) (hown : w.ownsRow base 27 1 v n rs) (A : Option Addr) (m c : Nat) (rs2 : List Value) (hx : a.eval x = .slice A m c)
    (hr : Src w A m c rs2) (h1 : ∀ u ∈ rs2, u.oneCell' = true) (hlen : n ≤ 1000000) (hlm : m ≤ 1000000) (hbase : base ≤ w.heap.size)
    (h : ∀ A' c' w', w'.ownsRow base 27 1 (.slice A' (n + m) c') (n + m) (rs ++ rs2) → w.grownBy w' v.ownBlock → wpList Try.prog ops Q rest (a.put o.dst (.slice A' (n + m) c')) w') :
    wpList Try.prog ops Q (o :: rest) a w :=
  wpList_plain hgd fun _ hK => wp_appendSS w s x ho base v n rs hs hown A m c rs2 hx hr h1 hlen hlm hbase fun A' c' w' h1 h2 => hK _ _ (h A' c' w' h1 h2)
end
section
variable {w w' : World} {base : Nat} {A A3 : Option Addr} {c c3 : Nat} {rs : List Value} {Ls : List (List Int)}
theorem OwnSS.oneC (h : OwnSS w base A c rs Ls) : ∀ u ∈ rs, u.oneCell' = true := fun u hu => by
  obtain ⟨j, hj, rfl⟩ := List.getElem_of_mem hu
  have := h.2.2.1 j (by rw [← h.1]; exact hj)
  obtain ⟨A', c', e⟩ := own_form this
  have e2 : rs[j] = rvOf rs j := by unfold rvOf; simp [hj]
  rw [e2, e]
  rfl
/-- a row's value put between, in a new outer row -/
theorem OwnSS.ins {r : Value} {L : List Int} (p : Nat) (hp : p ≤ Ls.length) (h : OwnSS w base A c rs Ls) (hr : w.ownsRow base 3 1 r L.length (ics L))
    (hd : ∀ j, j < Ls.length → ∀ k, r.ownBlock = some k → some k ≠ (rvOf rs j).ownBlock)
    (ho : w.ownsRow base 27 1 (.slice A3 (Ls.length + 1) c3) (Ls.length + 1) (rs.take p ++ r :: rs.drop p)) :
    OwnSS w base A3 c3 (rs.take p ++ r :: rs.drop p) (Ls.take p ++ L :: Ls.drop p) := by
  have hl : (Ls.take p ++ L :: Ls.drop p).length = Ls.length + 1 := by simp; omega
  have hrl := h.1
  have erv : ∀ j, rvOf (rs.take p ++ r :: rs.drop p) j = if j < p then rvOf rs j else if j = p then r else rvOf rs (j - 1) := fun j => by
    unfold rvOf
    simp only [List.getD_eq_getElem?_getD]
    by_cases h1 : j < p
    · rw [if_pos h1, List.getElem?_append_left (by simp; omega), List.getElem?_take_of_lt h1]
    · rw [if_neg h1, List.getElem?_append_right (by simp; omega), List.length_take, Nat.min_eq_left (by omega)]
      by_cases h2 : j = p
      · subst h2; simp
      · rw [if_neg h2, show j - p = (j - 1 - p) + 1 by omega, List.getElem?_cons_succ, List.getElem?_drop, show p + (j - 1 - p) = j - 1 by omega]
  have erw : ∀ j, rowOf (Ls.take p ++ L :: Ls.drop p) j = if j < p then rowOf Ls j else if j = p then L else rowOf Ls (j - 1) := fun j => by
    unfold rowOf
    simp only [List.getD_eq_getElem?_getD]
    by_cases h1 : j < p
    · rw [if_pos h1, List.getElem?_append_left (by simp; omega), List.getElem?_take_of_lt h1]
    · rw [if_neg h1, List.getElem?_append_right (by simp; omega), List.length_take, Nat.min_eq_left (by omega)]
      by_cases h2 : j = p
      · subst h2; simp
      · rw [if_neg h2, show j - p = (j - 1 - p) + 1 by omega, List.getElem?_cons_succ, List.getElem?_drop, show p + (j - 1 - p) = j - 1 by omega]
  refine ⟨by simp [hrl], by rw [hl]; exact ho, fun j hj => ?_, fun i j hi hj hij k hk => ?_⟩
  · rw [hl] at hj
    rw [erv, erw]
    by_cases h1 : j < p
    · rw [if_pos h1, if_pos h1]; exact h.2.2.1 j (by omega)
    · rw [if_neg h1, if_neg h1]
      by_cases h2 : j = p
      · rw [if_pos h2, if_pos h2]; exact hr
      · rw [if_neg h2, if_neg h2]; exact h.2.2.1 (j - 1) (by omega)
  · rw [hl] at hi hj
    rw [erv] at hk ⊢
    have key : ∀ a, a < Ls.length → ∀ k, (rvOf rs a).ownBlock = some k → some k ≠ r.ownBlock := fun a ha k hk e => hd a ha k e.symm hk.symm
    by_cases a1 : i < p
    · rw [if_pos a1] at hk
      by_cases b1 : j < p
      · rw [if_pos b1]; exact h.2.2.2 i j (by omega) (by omega) hij k hk
      · rw [if_neg b1]
        by_cases b2 : j = p
        · rw [if_pos b2]; exact key i (by omega) k hk
        · rw [if_neg b2]; exact h.2.2.2 i (j - 1) (by omega) (by omega) (by omega) k hk
    · rw [if_neg a1] at hk
      by_cases a2 : i = p
      · rw [if_pos a2] at hk
        by_cases b1 : j < p
        · rw [if_pos b1]; exact hd j (by omega) k hk
        · rw [if_neg b1, if_neg (by omega)]; exact hd (j - 1) (by omega) k hk
      · rw [if_neg a2] at hk
        by_cases b1 : j < p
        · rw [if_pos b1]; exact h.2.2.2 (i - 1) j (by omega) (by omega) (by omega) k hk
        · rw [if_neg b1]
          by_cases b2 : j = p
          · rw [if_pos b2]; exact key (i - 1) (by omega) k hk
          · rw [if_neg b2]; exact h.2.2.2 (i - 1) (j - 1) (by omega) (by omega) (by omega) k hk
end

/- QzQ -/
theorem OwnSS.farN {w w' : World} {base : Nat} {A : Option Addr} {c : Nat} {rs : List Value} {Ls : List (List Int)} {row : Option Nat} (N : Nat) (h : OwnSS w base A c rs Ls) (hN : (∀ q, (Value.slice A Ls.length c).ownBlock = some q → q < N) ∧ ∀ j, j < Ls.length → ∀ q, (rvOf rs j).ownBlock = some q → q < N)
    (hg : w.grownBy w' row) (hr : ∀ k, row = some k → N ≤ k) : OwnSS w' base A c rs Ls :=
  ⟨h.1, own_far h.2.1 hg (fun q hq e => by have := hN.1 q hq; have := hr q e.symm; omega), fun j hj => own_far (h.2.2.1 j hj) hg (fun q hq e => by have := hN.2 j hj q hq; have := hr q e.symm; omega), h.2.2.2⟩
theorem OwnSS.bd {w : World} {base : Nat} {A : Option Addr} {c : Nat} {rs : List Value} {Ls : List (List Int)} (h : OwnSS w base A c rs Ls) : (∀ q, (Value.slice A Ls.length c).ownBlock = some q → q < w.heap.size) ∧ ∀ j, j < Ls.length → ∀ q, (rvOf rs j).ownBlock = some q → q < w.heap.size :=
  ⟨fun q hq => (h.2.1.lt q hq).2, fun j hj q hq => ((h.2.2.1 j hj).lt q hq).2⟩
theorem src_take {w : World} {base : Nat} {g c : Nat} {rs : List Value} {Ls : List (List Int)} (h : OwnSS w base (some ⟨g, 0, none⟩) c rs Ls) (p : Nat) (hp : p ≤ Ls.length) (c' : Nat) : Src w (some ⟨g, 0, none⟩) p c' (rs.take p) := by
  have hl := h.1
  refine ⟨by simp; omega, .inr ⟨g, 0, rfl, fun j u hu => ?_⟩⟩
  have hj : j < p := by
    have := (List.getElem?_eq_some_iff.1 hu).1
    simp at this; omega
  rw [List.getElem?_take_of_lt hj] at hu
  rw [Nat.zero_add]
  exact (h.2.1.cellAt j (by omega)).trans hu
theorem src_drop {w : World} {base : Nat} {g c : Nat} {rs : List Value} {Ls : List (List Int)} (h : OwnSS w base (some ⟨g, 0, none⟩) c rs Ls) (p : Nat) (hp : p ≤ Ls.length) (c' : Nat) : Src w (some ⟨g, p, none⟩) (Ls.length - p) c' (rs.drop p) := by
  have hl := h.1
  refine ⟨by simp; omega, .inr ⟨g, p, rfl, fun j u hu => ?_⟩⟩
  rw [List.getElem?_drop] at hu
  have hj : p + j < Ls.length := by
    have := (List.getElem?_eq_some_iff.1 hu).1
    omega
  exact (h.2.1.cellAt (p + j) (by omega)).trans hu
theorem src_dropI {w : World} {base : Nat} {g c : Nat} {rs : List Value} {Ls : List (List Int)} (h : OwnSS w base (some ⟨g, 0, none⟩) c rs Ls) (p : Nat) (hp : p ≤ Ls.length) (hc : Ls.length ≤ c) (c' : Nat) : Src w (if c = p then some ⟨g, 0, none⟩ else some ⟨g, p, none⟩) (Ls.length - p) c' (rs.drop p) := by
  by_cases e : c = p
  · rw [if_pos e]
    have hl := h.1
    refine ⟨by simp; omega, .inr ⟨g, 0, rfl, fun j u hu => ?_⟩⟩
    rw [List.drop_of_length_le (by omega)] at hu
    simp at hu
  · rw [if_neg e]; exact src_drop h p hp c'
theorem own_emptySS (w : World) : (w.alloc (.cells #[] 27)).ownsRow w.heap.size 27 1 (.slice (some ⟨w.heap.size, 0, none⟩) 0 0) 0 [] := ⟨rfl, .inr ⟨w.heap.size, 0, #[], rfl, Nat.le_refl _, heap_alloc_new w _, Nat.le_refl _, by decide, rfl, rfl⟩⟩
set_option maxRecDepth 100000 in
set_option maxHeartbeats 3200000 in
theorem spec_caQuiddities (m : Nat) (w : World) (m3 : 3 ≤ m) (m8 : m ≤ 8) : Calls Try.prog 74 #[.int .i64 m] w fun e w' => ∃ A c rs, e = .returned (.slice A (qzT m).length c) ∧ OwnSS w' w.heap.size A c rs (QS (qzT m) (qzT m).length) ∧ Below w.heap.size w w' := by
  have HA := Lib.hid (spec_poAll m w m3 m8)
  unfold GivDD at HA
  obtain ⟨K, hK⟩ : ∃ K, (altL m).length = K := ⟨_, rfl⟩
  have hK2 : K ≤ 132 := by rw [← hK]; exact alt_bd ⟨m, by omega⟩
  have hqK : (qzT m).length = K := by rw [qz_len, hK]
  have HqK := Lib.hid hqK
  have HK := Lib.hid hK
  rw [hK] at HA
  rw [hqK]
  clear hK hqK
  go_enter Try.func74, Try.ntmps74
  go_wp2_with fail
  refine HA.out.mono ?_
  rintro e w1 ⟨A1, c1, rs1, rfl, ho1, hb1⟩
  have O1 := Lib.hid ho1
  have B1 := Lib.hid hb1
  clear ho1 hb1 HA
  go_wp2
  go_loopw [3, 5, 6, 7, 8, 12] (fun S _ _ _ _ i wr => ∃ (k : Nat) (A : Option Addr) (c : Nat) (rs : List Value), k ≤ K ∧ i = .int .i64 k ∧ S = .slice A k c ∧ (k = 0 → A = none ∧ c = 0) ∧ OwnSS wr w1.heap.size A c rs (QS (qzT m) k) ∧ Below w1.heap.size w1 wr) (fun _ _ _ _ _ i _ => K - (intOf i).toNat)
  case atStart => exact ⟨0, none, 0, [], Nat.zero_le _, rfl, rfl, fun _ => ⟨rfl, rfl⟩, OwnSS.nil_, Below.refl _ _⟩
  case round =>
    obtain ⟨W0, hW0⟩ : ∃ W0, W0 = wr := ⟨_, rfl⟩
    subst hW0
    obtain ⟨k, A, c, rs, hk, rfl, rfl, hnil, ho, hb⟩ := hrel
    have hQl := QS_length (qzT m) k (by rw [HqK.out]; exact hk)
    by_cases hlt : k < K
    · have hD := O1.out.kept hb
      obtain ⟨gd, hA1, _, _, hcd⟩ := hD.outer (by rw [HK.out]; omega)
      have hrow := hD.2.2.1 k (by rw [HK.out]; exact hlt)
      obtain ⟨Aj, cj, ej⟩ := own_form hrow
      have x0 := hcd k (by rw [HK.out]; exact hlt)
      rw [ej] at x0 hrow
      subst hA1
      obtain ⟨r5, rtri⟩ := alt_tri (m := m) m3 m8 (k := k) (by rw [HK.out]; exact hlt)
      have hqr := qz_row (m := m) (k := k) (by rw [HK.out]; exact hlt)
      have HQ := Lib.hid (spec_poQuiddity (m : Int) Aj cj W0.heap.size (rowD (altL m) k) W0 (SlD.of_own hrow) (Nat.le_refl _) rtri)
      unfold GivI at HQ
      rw [Int.toNat_natCast, ← hqr] at HQ
      have hlr : (rowOf (qzT m) k).length = m := by rw [hqr]; exact quidF_length _ _
      have hins : QS (qzT m) (k + 1) = insI (rowOf (qzT m) k) (QS (qzT m) k) := rfl
      have hSr := QS_rows (qzT_rows m) k (by rw [HqK.out]; exact hk)
      have i0 : (0 : Int) ≤ (k : Int) := by omega
      have i1 : (k : Int) < (K : Int) := by omega
      have Hb01 := Lib.hid hb.size
      have Ho := Lib.hid ho
      have Hb := Lib.hid hb
      have Hins := Lib.hid hins
      have Hlr := Lib.hid hlr
      have HQl := Lib.hid hQl
      have HSr := Lib.hid hSr
      clear ho hb hD hrow hcd ej hqr rtri hlr hQl hins hSr
      generalize (rowD (altL m) k).length = dl at *
      generalize rowOf (qzT m) k = L at *
      generalize QS (qzT m) k = S at *
      rw [Hlr.out] at HQ
      go_wp2_with fail
      refine HQ.out.mono ?_
      rintro e w4 ⟨A4, c4, rfl, ho4, hb4⟩
      have o5 := Lib.hid (Ho.out.kept hb4)
      have b5 := Lib.hid (below_kept Hb.out (Nat.le_refl _) hb4)
      have O4 := Lib.hid ho4
      have Hb4 := Lib.hid hb4.size
      have B4 := Lib.hid b5.out.size
      clear ho4 hb4 x0 HQ
      go_wp2
      go_loopw [7] (fun a wq => ∃ p : Nat, p ≤ k ∧ a = .int .i64 p ∧ posI L S p = posI L S k ∧ Below w4.heap.size w4 wq) (fun a _ => (intOf a).toNat)
      case atStart => exact ⟨k, Nat.le_refl _, rfl, rfl, Below.refl _ _⟩
      case round =>
        obtain ⟨p, hp, rfl, hpos, hbq⟩ := hrel
        cases p with
        | zero =>
          by_cases k0 : k = 0
          · obtain ⟨rfl, rfl⟩ := hnil k0
            subst k0
            have o6 := o5.out.kept hbq
            have hN := o6.bd
            have h1c := o6.oneC
            have hrl := o6.1
            have q6 := own_kept O4.out hbq
            have hqb : ∀ q, (Value.slice A4 m c4).ownBlock = some q → W0.heap.size ≤ q ∧ q < wr.heap.size := fun q hq => q6.lt q hq
            rw [HQl.out] at hrl
            have h16 : w1.heap.size ≤ wr.heap.size := Nat.le_trans b5.out.size hbq.size
            have O6 := Lib.hid o6
            have HN := Lib.hid hN
            have H1 := Lib.hid h1c
            have Q6 := Lib.hid q6
            have Hqb := Lib.hid hqb
            have Hrl := Lib.hid hrl
            have O7 := Lib.hid (o6.alloc (.cells #[] 27))
            have HL0 := Lib.hid (Ho.out.bd.2)
            have D6 := Lib.hid (below_kept b5.out (Nat.le_refl _) hbq)
            have Hpp := Lib.hid hpos
            clear o6 hN h1c q6 hqb hrl hbq hpos
            go_wp2_with (first
              | (at_builtin; refine wpList_appendSS _ rfl _ _ rfl wr.heap.size (.slice (some ⟨wr.heap.size, 0, none⟩) 0 0) 0 [] rfl (own_emptySS wr) none 0 0 (rs.take 0) rfl ⟨by simp, .inl ⟨rfl, rfl, rfl⟩⟩ (fun u hu => H1.out u (List.mem_of_mem_take hu)) (by omega) (by omega) (by simp) ?_
                 intro A8 c8 w8 own8 hg8
                 rw [Nat.zero_add, List.nil_append] at own8
                 have O8 := Lib.hid (O6.out.far2 hg8)
                 have Q8 := Lib.hid (own_far (Q6.out.alloc (.cells #[] 27)) hg8 (fun q hq e => by have := (Hqb.out q hq).2; have h2 : q = wr.heap.size := Option.some.inj e; omega))
                 have D8 := Lib.hid (below_grown (D6.out.alloc h16 (.cells #[] 27)) hg8 (Nat.le_refl _) (fun j hj => by have h1 : wr.heap.size = j := Option.some.inj hj; omega))
                 have z8 : wr.heap.size ≤ w8.heap.size := by have := hg8.size; simp at this; omega
                 have l8 := Lib.hid own8.lt
                 clear hg8)
              | (at_builtin; refine append1SS _ rfl _ _ rfl wr.heap.size (.slice A8 0 c8) 0 (rs.take 0) rfl (own8.alloc _) w8.heap.size (.slice A4 m c4) rfl rfl (by simp [go_sem]) (by omega) (by simp; omega) ?_
                 intro A9 c9 w9 own9 hg9
                 have O9 := Lib.hid ((O8.out.alloc (.cells #[.slice A4 m c4] 27)).farN wr.heap.size HN.out hg9 (fun j hj => (l8.out j hj).1))
                 have Q9 := Lib.hid (own_far (Q8.out.alloc (.cells #[.slice A4 m c4] 27)) hg9 (fun q hq e => by have := (Hqb.out q hq).2; have h2 := (l8.out q e.symm).1; omega))
                 have D9 := Lib.hid (below_grown (D8.out.alloc (Nat.le_trans h16 z8) (.cells #[.slice A4 m c4] 27)) hg9 (Nat.le_refl _) (fun j hj => Nat.le_trans h16 (l8.out j hj).1))
                 have z9 : wr.heap.size ≤ w9.heap.size := by have := hg9.size; simp at this; omega
                 have l9 := Lib.hid own9.lt
                 clear hg9 own8)
              | (at_builtin; refine wpList_appendSS _ rfl _ _ rfl wr.heap.size (.slice A9 1 c9) 1 (rs.take 0 ++ [.slice A4 m c4]) rfl own9 none 0 0 (rs.drop 0) rfl ⟨by simp [Hrl.out], .inl ⟨rfl, rfl, rfl⟩⟩ (fun u hu => H1.out u (List.mem_of_mem_drop hu)) (by omega) (by omega) z9 ?_
                 intro A10 c10 w10 own10 hg10
                 have O10 := Lib.hid (O9.out.farN wr.heap.size HN.out hg10 (fun j hj => (l9.out j hj).1))
                 have Q10 := Lib.hid (own_far Q9.out hg10 (fun q hq e => by have := (Hqb.out q hq).2; have h2 := (l9.out q e.symm).1; omega))
                 have D10 := Lib.hid (below_grown D9.out hg10 (Nat.le_refl _) (fun j hj => Nat.le_trans h16 (l9.out j hj).1))
                 clear hg10 own9))
            have e10 : 1 + 0 = S.length + 1 := by have := HQl.out; omega
            rw [e10] at own10
            rw [List.append_assoc, List.singleton_append] at own10
            have hfin := O10.out.ins (A3 := A10) (c3 := c10) (r := .slice A4 m c4) (L := L) 0 (Nat.zero_le _) (by rw [Hlr.out]; exact Q10.out.mono Hb01.out) (fun j hj q hq e => by
              have h1 := (Hqb.out q hq).1
              have h2 := HL0.out j hj q e.symm
              omega) (own10.mono h16)
            have hI : insI L S = S.take 0 ++ L :: S.drop 0 := by unfold insI; rw [HQl.out, ← Hpp.out]; rfl
            rw [← hI, ← Hins.out] at hfin
            have HF := Lib.hid hfin
            clear hfin hI own10 e10
            go_wp2
            go_roundw
            case rel => exact ⟨0 + 1, A10, c10, _, by omega, by go_num, by first | rfl | (congr 1; omega) | (congr 1), fun h => by omega, HF.out, D10.out⟩
            case measure => simp [intOf] <;> omega
          · obtain ⟨g, hg, _, _, _⟩ := o5.out.outer (by rw [HQl.out]; omega)
            subst hg
            have o6 := o5.out.kept hbq
            have hN := o6.bd
            have h1c := o6.oneC
            have hrl := o6.1
            have q6 := own_kept O4.out hbq
            have hqb : ∀ q, (Value.slice A4 m c4).ownBlock = some q → W0.heap.size ≤ q ∧ q < wr.heap.size := fun q hq => q6.lt q hq
            rw [HQl.out] at hrl
            have h16 : w1.heap.size ≤ wr.heap.size := Nat.le_trans b5.out.size hbq.size
            have O6 := Lib.hid o6
            have HN := Lib.hid hN
            have H1 := Lib.hid h1c
            have Q6 := Lib.hid q6
            have Hqb := Lib.hid hqb
            have Hrl := Lib.hid hrl
            have O7 := Lib.hid (o6.alloc (.cells #[] 27))
            have HL0 := Lib.hid (Ho.out.bd.2)
            have D6 := Lib.hid (below_kept b5.out (Nat.le_refl _) hbq)
            have Hpp := Lib.hid hpos
            clear o6 hN h1c q6 hqb hrl hbq hpos
            go_wp2_with (first
              | (at_builtin; refine wpList_appendSS _ rfl _ _ rfl wr.heap.size (.slice (some ⟨wr.heap.size, 0, none⟩) 0 0) 0 [] rfl (own_emptySS wr) (some ⟨g, 0, none⟩) 0 c (rs.take 0) rfl (src_take O7.out 0 (Nat.zero_le _) c) (fun u hu => H1.out u (List.mem_of_mem_take hu)) (by omega) (by omega) (by simp) ?_
                 intro A8 c8 w8 own8 hg8
                 rw [Nat.zero_add, List.nil_append] at own8
                 have O8 := Lib.hid (O6.out.far2 hg8)
                 have Q8 := Lib.hid (own_far (Q6.out.alloc (.cells #[] 27)) hg8 (fun q hq e => by have := (Hqb.out q hq).2; have h2 : q = wr.heap.size := Option.some.inj e; omega))
                 have D8 := Lib.hid (below_grown (D6.out.alloc h16 (.cells #[] 27)) hg8 (Nat.le_refl _) (fun j hj => by have h1 : wr.heap.size = j := Option.some.inj hj; omega))
                 have z8 : wr.heap.size ≤ w8.heap.size := by have := hg8.size; simp at this; omega
                 have l8 := Lib.hid own8.lt
                 clear hg8)
              | (at_builtin; refine append1SS _ rfl _ _ rfl wr.heap.size (.slice A8 0 c8) 0 (rs.take 0) rfl (own8.alloc _) w8.heap.size (.slice A4 m c4) rfl rfl (by simp [go_sem]) (by omega) (by simp; omega) ?_
                 intro A9 c9 w9 own9 hg9
                 have O9 := Lib.hid ((O8.out.alloc (.cells #[.slice A4 m c4] 27)).farN wr.heap.size HN.out hg9 (fun j hj => (l8.out j hj).1))
                 have Q9 := Lib.hid (own_far (Q8.out.alloc (.cells #[.slice A4 m c4] 27)) hg9 (fun q hq e => by have := (Hqb.out q hq).2; have h2 := (l8.out q e.symm).1; omega))
                 have D9 := Lib.hid (below_grown (D8.out.alloc (Nat.le_trans h16 z8) (.cells #[.slice A4 m c4] 27)) hg9 (Nat.le_refl _) (fun j hj => Nat.le_trans h16 (l8.out j hj).1))
                 have z9 : wr.heap.size ≤ w9.heap.size := by have := hg9.size; simp at this; omega
                 have l9 := Lib.hid own9.lt
                 clear hg9 own8)
              | (at_builtin; refine wpList_appendSS _ rfl _ _ rfl wr.heap.size (.slice A9 1 c9) 1 (rs.take 0 ++ [.slice A4 m c4]) rfl own9 (some ⟨g, 0, none⟩) k c (rs.drop 0) rfl (by have := src_drop O9.out 0 (Nat.zero_le _) c; rw [HQl.out, Nat.sub_zero] at this; exact this) (fun u hu => H1.out u (List.mem_of_mem_drop hu)) (by omega) (by omega) z9 ?_
                 intro A10 c10 w10 own10 hg10
                 have O10 := Lib.hid (O9.out.farN wr.heap.size HN.out hg10 (fun j hj => (l9.out j hj).1))
                 have Q10 := Lib.hid (own_far Q9.out hg10 (fun q hq e => by have := (Hqb.out q hq).2; have h2 := (l9.out q e.symm).1; omega))
                 have D10 := Lib.hid (below_grown D9.out hg10 (Nat.le_refl _) (fun j hj => Nat.le_trans h16 (l9.out j hj).1))
                 clear hg10 own9))
            have e10 : 1 + k = S.length + 1 := by have := HQl.out; omega
            rw [e10] at own10
            rw [List.append_assoc, List.singleton_append] at own10
            have hfin := O10.out.ins (A3 := A10) (c3 := c10) (r := .slice A4 m c4) (L := L) 0 (Nat.zero_le _) (by rw [Hlr.out]; exact Q10.out.mono Hb01.out) (fun j hj q hq e => by
              have h1 := (Hqb.out q hq).1
              have h2 := HL0.out j hj q e.symm
              omega) (own10.mono h16)
            have hI : insI L S = S.take 0 ++ L :: S.drop 0 := by unfold insI; rw [HQl.out, ← Hpp.out]; rfl
            rw [← hI, ← Hins.out] at hfin
            have HF := Lib.hid hfin
            clear hfin hI own10 e10
            go_wp2
            go_roundw
            case rel => exact ⟨k + 1, A10, c10, _, by omega, by go_num, by first | rfl | (congr 1; omega) | (congr 1), fun h => by omega, HF.out, D10.out⟩
            case measure => simp [intOf] <;> omega
        | succ p =>
          obtain ⟨g, hg, _, _, hcg⟩ := (o5.out.kept hbq).outer (by rw [HQl.out]; omega)
          subst hg
          have y0 := hcg p (by rw [HQl.out]; omega)
          have hrow := (o5.out.kept hbq).2.2.1 p (by rw [HQl.out]; omega)
          obtain ⟨Ap, cp, ep⟩ := own_form hrow
          have hSl : (rowOf S p).length = m := HSr.out _ (by
            have e : rowOf S p = S[p]'(by rw [HQl.out]; omega) := by simp [rowOf, show p < S.length by rw [HQl.out]; omega]
            rw [e]; exact List.getElem_mem _)
          rw [ep] at y0 hrow
          rw [hSl] at y0 hrow
          have q4 := own_kept O4.out hbq
          have HC := Lib.hid (spec_caListBefore A4 Ap c4 cp wr.heap.size wr.heap.size m L (rowOf S p) wr Hlr.out hSl (by have := SlI.of_own q4; exact this) (by have := SlI.of_own hrow; exact this) (Nat.le_refl _) (Nat.le_refl _) (by omega))
          clear hcg ep hrow q4
          go_wp2_with fail
          refine HC.out.mono ?_
          rintro e w6 ⟨rfl, hb6⟩
          have b6 := Lib.hid (below_kept hbq (Nat.le_refl _) hb6)
          cases hlx : ltI L (rowOf S p)
          · have hpp : posI L S k = p + 1 := by rw [← hpos]; show (if ltI L (rowOf S p) = true then posI L S p else p + 1) = p + 1; rw [hlx]; rfl
            have Hpp := Lib.hid hpp
            clear hpp hlx hb6 hbq hpos HC
            have j0 : (0 : Int) ≤ (p : Int) + 1 := by omega
            have o6 := o5.out.kept b6.out
            have hcap := own_capI o6.2.1
            rw [HQl.out] at hcap
            have hN := o6.bd
            have h1c := o6.oneC
            have hrl := o6.1
            have q6 := own_kept O4.out b6.out
            have hqb : ∀ q, (Value.slice A4 m c4).ownBlock = some q → W0.heap.size ≤ q ∧ q < w6.heap.size := fun q hq => q6.lt q hq
            rw [HQl.out] at hrl
            have hW06 : W0.heap.size ≤ w6.heap.size := Nat.le_trans Hb4.out b6.out.size
            have h16 : w1.heap.size ≤ w6.heap.size := Nat.le_trans b5.out.size b6.out.size
            have O6 := Lib.hid o6
            have HN := Lib.hid hN
            have H1 := Lib.hid h1c
            have Q6 := Lib.hid q6
            have Hqb := Lib.hid hqb
            have Hrl := Lib.hid hrl
            have O7 := Lib.hid (o6.alloc (.cells #[] 27))
            have j1 : (p : Int) + 1 ≤ (c : Int) := by omega
            have j2 : (p : Int) + 1 ≤ (k : Int) := by omega
            clear o6 hN h1c q6 hqb hrl y0
            have HL0 := Lib.hid (Ho.out.bd.2)
            have D6 := Lib.hid (below_kept b5.out (Nat.le_refl _) b6.out)
            go_wp2_with (first
              | (at_builtin; refine wpList_appendSS _ rfl _ _ rfl w6.heap.size (.slice (some ⟨w6.heap.size, 0, none⟩) 0 0) 0 [] rfl (own_emptySS w6) (some ⟨g, 0, none⟩) (p + 1) c (rs.take (p + 1)) rfl (src_take O7.out (p + 1) (by rw [HQl.out]; omega) c) (fun u hu => H1.out u (List.mem_of_mem_take hu)) (by omega) (by omega) (by simp) ?_
                 intro A8 c8 w8 own8 hg8
                 rw [Nat.zero_add, List.nil_append] at own8
                 have O8 := Lib.hid (O6.out.far2 hg8)
                 have Q8 := Lib.hid (own_far (Q6.out.alloc (.cells #[] 27)) hg8 (fun q hq e => by have := (Hqb.out q hq).2; have h2 : q = w6.heap.size := Option.some.inj e; omega))
                 have D8 := Lib.hid (below_grown (D6.out.alloc h16 (.cells #[] 27)) hg8 (Nat.le_refl _) (fun j hj => by have h1 : w6.heap.size = j := Option.some.inj hj; omega))
                 have z8 : w6.heap.size ≤ w8.heap.size := by have := hg8.size; simp at this; omega
                 have l8 := Lib.hid own8.lt
                 clear hg8)
              | (at_builtin; refine append1SS _ rfl _ _ rfl w6.heap.size (.slice A8 (p + 1) c8) (p + 1) (rs.take (p + 1)) rfl (own8.alloc _) w8.heap.size (.slice A4 m c4) rfl rfl (by simp [go_sem]) (by omega) (by simp; omega) ?_
                 intro A9 c9 w9 own9 hg9
                 have O9 := Lib.hid ((O8.out.alloc (.cells #[.slice A4 m c4] 27)).farN w6.heap.size HN.out hg9 (fun j hj => (l8.out j hj).1))
                 have Q9 := Lib.hid (own_far (Q8.out.alloc (.cells #[.slice A4 m c4] 27)) hg9 (fun q hq e => by have := (Hqb.out q hq).2; have h2 := (l8.out q e.symm).1; omega))
                 have D9 := Lib.hid (below_grown (D8.out.alloc (Nat.le_trans h16 z8) (.cells #[.slice A4 m c4] 27)) hg9 (Nat.le_refl _) (fun j hj => Nat.le_trans h16 (l8.out j hj).1))
                 have z9 : w6.heap.size ≤ w9.heap.size := by have := hg9.size; simp at this; omega
                 have l9 := Lib.hid own9.lt
                 clear hg9 own8)
              | (at_builtin; refine wpList_appendSS _ rfl _ _ rfl w6.heap.size (.slice A9 (p + 1 + 1) c9) (p + 1 + 1) (rs.take (p + 1) ++ [.slice A4 m c4]) rfl own9 (if c = p + 1 then some ⟨g, 0, none⟩ else some ⟨g, p + 1, none⟩) (k - (p + 1)) (c - (p + 1)) (rs.drop (p + 1)) rfl (by have := src_dropI O9.out (p + 1) (by rw [HQl.out]; omega) (by rw [HQl.out]; exact hcap) (c - (p + 1)); rw [HQl.out] at this; exact this) (fun u hu => H1.out u (List.mem_of_mem_drop hu)) (by omega) (by omega) z9 ?_
                 intro A10 c10 w10 own10 hg10
                 have O10 := Lib.hid (O9.out.farN w6.heap.size HN.out hg10 (fun j hj => (l9.out j hj).1))
                 have Q10 := Lib.hid (own_far Q9.out hg10 (fun q hq e => by have := (Hqb.out q hq).2; have h2 := (l9.out q e.symm).1; omega))
                 have D10 := Lib.hid (below_grown D9.out hg10 (Nat.le_refl _) (fun j hj => Nat.le_trans h16 (l9.out j hj).1))
                 clear hg10 own9))
            have e10 : p + 1 + 1 + (k - (p + 1)) = k + 1 := by omega
            rw [e10] at own10
            rw [List.append_assoc, List.singleton_append] at own10
            have hfin := O10.out.ins (A3 := A10) (c3 := c10) (r := .slice A4 m c4) (L := L) (p + 1) (by rw [HQl.out]; omega) (by rw [Hlr.out]; exact Q10.out.mono Hb01.out) (fun j hj q hq e => by
              have h1 := (Hqb.out q hq).1
              have h2 := HL0.out j hj q e.symm
              omega) (by rw [HQl.out]; exact own10.mono h16)
            have hI : insI L S = S.take (p + 1) ++ L :: S.drop (p + 1) := by unfold insI; rw [HQl.out, Hpp.out]
            rw [← hI, ← Hins.out] at hfin
            have HF := Lib.hid hfin
            clear hfin hI own10 e10
            go_wp2
            go_roundw
            case rel => exact ⟨k + 1, A10, c10, _, by omega, by go_num, by first | rfl | (congr 1; omega) | (congr 1), fun h => by omega, HF.out, D10.out⟩
            case measure => simp [intOf] <;> omega
          · have hpp : posI L S p = posI L S k := by rw [← hpos]; show posI L S p = (if ltI L (rowOf S p) = true then posI L S p else p + 1); rw [if_pos hlx]
            have Hpp := Lib.hid hpp
            clear hpp hlx hb6 hbq hpos HC
            go_wp2
            go_roundw
            case rel => exact ⟨p, by omega, by go_num, Hpp.out, b6.out⟩
            case measure => simp [intOf] <;> omega
    · obtain rfl : k = K := by omega
      have HE := Lib.hid (show ∃ A' c' rs', (Ending.returned (.slice A k c)) = .returned (.slice A' k c') ∧ OwnSS W0 w.heap.size A' c' rs' (QS (qzT m) k) ∧ Below w.heap.size w W0 from ⟨A, c, rs, rfl, ho.mono B1.out.size, B1.out.trans (hb.mono B1.out.size)⟩)
      clear ho hb hnil
      go_wp2
      go_ret
      exact HE.out

/- AllQuidditiesC -/
/- AllQuidditiesW -/
theorem qzR_bd (n : Int) : (qzR n).length ≤ 132 ∧ ∀ x ∈ qzR n, x.length ≤ 8 := by
  cases hi : inB n 3 8
  · rw [qzR_no hi]; simp
  · have hk := inB_iff'.1 hi
    obtain ⟨m, rfl⟩ := Int.eq_ofNat_of_zero_le (show 0 ≤ n by omega)
    rw [qzR_yes hi]
    refine ⟨?_, fun x hx => ?_⟩
    · rw [QS_length _ _ (Nat.le_refl _), qz_len]
      exact alt_bd ⟨m, by omega⟩
    · have := QS_rows (qzT_rows m) _ (Nat.le_refl _) x hx
      omega
theorem qzR_row (n : Int) (j : Nat) (hj : j < (qzR n).length) : (rowOf (qzR n) j).length ≤ 8 := by
  have e : rowOf (qzR n) j = (qzR n)[j] := by simp [rowOf, hj]
  rw [e]
  exact (qzR_bd n).2 _ (List.getElem_mem hj)

end Go.Proofs.Ytlnnnjnboknoeab

/- RevM: A quiddity backwards is a quiddity: any ear may be cut first. Plain mathematics. -/
namespace Go.Proofs.Ytlnnnjnboknoeab

/-- f ears can be cut off, and [1, 1, 1] is left -/
def red : Nat → List Int → Bool
  | 0, l => decide (l = [1, 1, 1])
  | f + 1, l => !decide (at1 l l.length < 0) && red f (cutL l (at1 l l.length).toNat)
theorem ofI_red (f : Nat) : ∀ l cs out, (ofI f l cs out).2 = red f l := by
  induction f with
  | zero =>
    intro l cs out
    unfold ofI red
    by_cases h : l = [1, 1, 1] <;> simp [h]
  | succ f ih =>
    intro l cs out
    unfold ofI red
    by_cases h : at1 l l.length < 0
    · rw [if_pos h, decide_eq_true h]; rfl
    · rw [if_neg h, decide_eq_false h, ih]; rfl
theorem red_low {f : Nat} {l : List Int} (h : red f l = true) (hl : l.length = f + 3) (j : Nat) (hj : j < l.length) : 1 ≤ l.getD j 0 := by
  rcases Int.lt_or_le (l.getD j 0) 1 with hlt | hge
  · have := ofI_bad f l [] [] hl ⟨j, hj, .inl hlt⟩
    have h2 := ofI_red f l [] []
    rw [this, h] at h2
    cases h2
  · exact hge
theorem isQ_red {q : List Int} : isQ q = (couldB q && red (q.length - 3) q) := by
  unfold isQ triOf
  cases couldB q
  · rfl
  · rw [if_pos rfl, ofI_red]; rfl

/-- a place in the list before the ear at k was cut off -/
def upL (k j : Nat) : Nat := if j < k then j else j + 1
/-- what a place gives for the ear at k -/
def preL (m k : Nat) : Nat := if k = 0 then m - 1 else k - 1
def sucL (m k : Nat) : Nat := if k + 1 = m then 0 else k + 1
def nbL (m k p : Nat) : Int := (if p = preL m k then 1 else 0) + (if p = sucL m k then 1 else 0)
theorem up_eq (k j : Nat) : (j < k ∧ upL k j = j) ∨ (k ≤ j ∧ upL k j = j + 1) := by
  unfold upL
  by_cases h : j < k
  · rw [if_pos h]; omega
  · rw [if_neg h]; omega
theorem pre_eq (m k : Nat) : (k = 0 ∧ preL m k = m - 1) ∨ (1 ≤ k ∧ preL m k = k - 1) := by
  unfold preL
  by_cases h : k = 0
  · rw [if_pos h]; omega
  · rw [if_neg h]; omega
theorem suc_eq (m k : Nat) : (k + 1 = m ∧ sucL m k = 0) ∨ (k + 1 ≠ m ∧ sucL m k = k + 1) := by
  unfold sucL
  by_cases h : k + 1 = m
  · rw [if_pos h]; omega
  · rw [if_neg h]; omega
theorem nb_same {m k p m' k' p' : Nat} (h1 : p = preL m k ↔ p' = preL m' k') (h2 : p = sucL m k ↔ p' = sucL m' k') : nbL m k p = nbL m' k' p' := by
  unfold nbL
  simp only [h1, h2]
theorem nb_swap {m k p m' k' p' : Nat} (h1 : p = preL m k ↔ p' = sucL m' k') (h2 : p = sucL m k ↔ p' = preL m' k') : nbL m k p = nbL m' k' p' := by
  unfold nbL
  simp only [h1, h2]
  omega
theorem nb_none {m k p : Nat} (h1 : p ≠ preL m k) (h2 : p ≠ sucL m k) : nbL m k p = 0 := by
  unfold nbL
  rw [if_neg h1, if_neg h2]; rfl
theorem nb_some {m k p : Nat} (h : p = preL m k ∨ p = sucL m k) : 1 ≤ nbL m k p := by
  unfold nbL
  rcases h with h | h
  · rw [if_pos h]; split <;> omega
  · rw [if_pos h]; split <;> omega
theorem cutL_at (l : List Int) (k j : Nat) (hm : 4 ≤ l.length) (hk : k < l.length) (hj : j + 1 < l.length) : (cutL l k).getD j 0 = l.getD (upL k j) 0 - nbL l.length k (upL k j) := by
  have e1 : (k + l.length - 1) % l.length = preL l.length k := by
    unfold preL
    split
    · subst_vars; rw [Nat.zero_add]; exact Nat.mod_eq_of_lt (by omega)
    · rw [show k + l.length - 1 = (k - 1) + l.length by omega, Nat.add_mod_right]; exact Nat.mod_eq_of_lt (by omega)
  have e2 : (k + 1) % l.length = sucL l.length k := by
    unfold sucL
    split
    · rename_i h; rw [h, Nat.mod_self]
    · exact Nat.mod_eq_of_lt (by omega)
  have hp : ∀ p, p < l.length → (dec2 l k).getD p 0 = l.getD p 0 - nbL l.length k p := by
    intro p hp
    unfold dec2 nbL
    rw [decr_get _ _ _ (by rw [decr_length]; exact hp), decr_get _ _ _ hp, e1, e2]
    generalize preL l.length k = a
    generalize sucL l.length k = b
    generalize l.getD p 0 = x
    by_cases ha : a = p <;> by_cases hb : b = p <;> simp [ha, hb, eq_comm] <;> omega
  unfold cutL upL
  rw [erase_get]
  split
  · exact hp j (by omega)
  · exact hp (j + 1) (by omega)
theorem ext_getD {l r : List Int} (h : l.length = r.length) (hg : ∀ j, j < l.length → l.getD j 0 = r.getD j 0) : l = r := by
  apply List.ext_getElem h
  intro j h1 h2
  have := hg j h1
  simpa [h1, h2] using this

theorem cut_comm {l : List Int} {i k : Nat} (hm : 5 ≤ l.length) (hik : i + 1 < k) (hk : k < l.length) (hn : ¬(i = 0 ∧ k + 1 = l.length)) : cutL (cutL l i) (k - 1) = cutL (cutL l k) i := by
  have l1 := cutL_length l i (by omega)
  have l2 := cutL_length l k hk
  have l3 := cutL_length (cutL l i) (k - 1) (by omega)
  have l4 := cutL_length (cutL l k) i (by omega)
  refine ext_getD (by omega) fun j hj => ?_
  rw [cutL_at (cutL l i) (k - 1) j (by omega) (by omega) (by omega), cutL_at (cutL l k) i j (by omega) (by omega) (by omega)]
  have v1 := up_eq (k - 1) j
  have v2 := up_eq i j
  have v3 := up_eq i (upL (k - 1) j)
  have v4 := up_eq k (upL i j)
  have u1 : upL (k - 1) j + 1 < l.length := by omega
  have u2 : upL i j + 1 < l.length := by omega
  rw [cutL_at l i _ (by omega) (by omega) u1, cutL_at l k _ (by omega) (by omega) u2]
  have e : upL i (upL (k - 1) j) = upL k (upL i j) := by omega
  rw [e, l1, l2]
  rw [e] at v3
  generalize upL k (upL i j) = p at *
  generalize upL (k - 1) j = x at *
  generalize upL i j = y at *
  have p1 := pre_eq l.length i
  have p2 := pre_eq (l.length - 1) i
  have p3 := pre_eq (l.length - 1) (k - 1)
  have p4 := pre_eq l.length k
  have s1 := suc_eq l.length i
  have s2 := suc_eq (l.length - 1) i
  have s3 := suc_eq (l.length - 1) (k - 1)
  have s4 := suc_eq l.length k
  clear l1 l2 l3 l4 hj e u1 u2
  have a1 : nbL l.length i p = nbL (l.length - 1) i y := nb_same (by omega) (by omega)
  have a2 : nbL (l.length - 1) (k - 1) x = nbL l.length k p := nb_same (by omega) (by omega)
  omega
/-- the ear at i is an ear still, behind the cut at k; what is beside an ear is none -/
theorem ear_after {l : List Int} {i k : Nat} (hm : 5 ≤ l.length) (hik : i + 1 < k) (hk : k < l.length) (hn : ¬(i = 0 ∧ k + 1 = l.length)) (hi1 : l.getD i 0 = 1) (hk1 : l.getD k 0 = 1) : (cutL l k).getD i 0 = 1 ∧ (cutL l i).getD (k - 1) 0 = 1 := by
  constructor
  · rw [cutL_at l k i (by omega) hk (by omega)]
    have e : upL k i = i := by have := up_eq k i; omega
    have a : nbL l.length k i = 0 := nb_none (by have := pre_eq l.length k; omega) (by have := suc_eq l.length k; omega)
    rw [e, a, hi1]; rfl
  · rw [cutL_at l i (k - 1) (by omega) (by omega) (by omega)]
    have e : upL i (k - 1) = k := by have := up_eq i (k - 1); omega
    have a : nbL l.length i k = 0 := nb_none (by have := pre_eq l.length i; omega) (by have := suc_eq l.length i; omega)
    rw [e, a, hk1]; rfl
theorem beside_low {l : List Int} {i k : Nat} (hm : 4 ≤ l.length) (hik : i < k) (hk : k < l.length) (hn : k = i + 1 ∨ (i = 0 ∧ k + 1 = l.length)) (hi1 : l.getD i 0 = 1) (hk1 : l.getD k 0 = 1) : (cutL l k).getD i 0 ≤ 0 ∧ (cutL l i).getD (k - 1) 0 ≤ 0 := by
  constructor
  · rw [cutL_at l k i (by omega) hk (by omega)]
    have e : upL k i = i := by have := up_eq k i; omega
    have a : 1 ≤ nbL l.length k i := nb_some (by have := pre_eq l.length k; have := suc_eq l.length k; omega)
    rw [e, hi1]; omega
  · rw [cutL_at l i (k - 1) (by omega) (by omega) (by omega)]
    have e : upL i (k - 1) = k := by have := up_eq i (k - 1); omega
    have a : 1 ≤ nbL l.length i k := nb_some (by have := pre_eq l.length i; have := suc_eq l.length i; omega)
    rw [e, hk1]; omega
def AnyEar (f : Nat) : Prop := ∀ l : List Int, l.length = f + 4 → ∀ i k, i < l.length → k < l.length → l.getD i 0 = 1 → l.getD k 0 = 1 → red f (cutL l i) = true → red f (cutL l k) = true
theorem at1_some {l : List Int} {i : Nat} (hi : i < l.length) (h : l.getD i 0 = 1) : ¬at1 l l.length < 0 := by
  intro hlt
  by_cases h0 : at1 l i < 0
  · have := at1_hit l i l.length h0 h hi
    omega
  · have := at1_stay l i (l.length - i) (by omega)
    rw [show i + (l.length - i) = l.length by omega] at this
    omega
theorem red_ear {f : Nat} (S : AnyEar f) {l : List Int} (hl : l.length = f + 4) {i : Nat} (hi : i < l.length) (h1 : l.getD i 0 = 1) (h : red f (cutL l i) = true) : red (f + 1) l = true := by
  have hs := at1_some hi h1
  have h2 := at1_lt l l.length
  unfold red
  rw [decide_eq_false hs]
  simpa using S l hl i (at1 l l.length).toNat hi (by omega) h1 (at1_one l l.length (by omega)) h
theorem red_cut {f : Nat} (S : AnyEar f) {l : List Int} (hl : l.length = f + 4) {i : Nat} (hi : i < l.length) (h1 : l.getD i 0 = 1) (h : red (f + 1) l = true) : red f (cutL l i) = true := by
  have hs := at1_some hi h1
  have h2 := at1_lt l l.length
  unfold red at h
  rw [decide_eq_false hs] at h
  exact S l hl (at1 l l.length).toNat i (by omega) hi (at1_one l l.length (by omega)) h1 (by simpa using h)
theorem anyEar_zero : AnyEar 0 := by
  intro l hl i k hi hk h1 h2 h
  by_cases e : i = k
  · subst e; exact h
  have hL := cutL_length l i hi
  have hK := cutL_length l k hk
  have hlow := fun j hj => red_low h (by omega) j hj
  have hall : cutL l i = [1, 1, 1] := by unfold red at h; simpa using h
  unfold red
  have hg : ∀ j, j < 3 → (cutL l i).getD j 0 = 1 := by
    intro j hj
    rw [hall]
    have : j = 0 ∨ j = 1 ∨ j = 2 := by omega
    rcases this with rfl | rfl | rfl <;> rfl
  have hopp : k = i + 2 ∨ i = k + 2 := by
    by_cases hlt : i < k
    · by_cases hn : k = i + 1 ∨ (i = 0 ∧ k + 1 = l.length)
      · have := (beside_low (by omega) hlt hk hn h1 h2).2
        have := hg (k - 1) (by omega)
        omega
      · omega
    · by_cases hn : i = k + 1 ∨ (k = 0 ∧ i + 1 = l.length)
      · have := (beside_low (by omega) (show k < i by omega) hi hn h2 h1).1
        have := hg k (by omega)
        omega
      · omega
  have : cutL l k = [1, 1, 1] := by
    refine ext_getD (by rw [hK, hl]; rfl) fun j hj => ?_
    rw [hK, hl] at hj
    have hone : ([1, 1, 1] : List Int).getD j 0 = 1 := by
      have : j = 0 ∨ j = 1 ∨ j = 2 := by omega
      rcases this with rfl | rfl | rfl <;> rfl
    rw [hone, cutL_at l k j (by omega) hk (by omega)]
    have g0 := hg 0 (by omega)
    have g1 := hg 1 (by omega)
    have g2 := hg 2 (by omega)
    rw [cutL_at l i _ (by omega) hi (by omega)] at g0 g1 g2
    rw [hl] at g0 g1 g2 ⊢
    unfold upL nbL preL sucL at *
    have hi4 : i = 0 ∨ i = 1 ∨ i = 2 ∨ i = 3 := by omega
    have hj3 : j = 0 ∨ j = 1 ∨ j = 2 := by omega
    rcases hopp with hopp | hopp
    · subst hopp
      rcases hi4 with rfl | rfl | rfl | rfl <;> rcases hj3 with rfl | rfl | rfl <;> simp at * <;> omega
    · have hk4 : k = 0 ∨ k = 1 := by omega
      subst hopp
      rcases hk4 with rfl | rfl <;> rcases hj3 with rfl | rfl | rfl <;> simp at * <;> omega
  simpa using this
theorem anyEar (f : Nat) : AnyEar f := by
  induction f with
  | zero => exact anyEar_zero
  | succ f ih =>
    intro l hl i k hi hk h1 h2 h
    have hL := cutL_length l i hi
    have hK := cutL_length l k hk
    by_cases e : i = k
    · subst e; exact h
    have hlow := fun j hj => red_low h (by omega) j hj
    by_cases hlt : i < k
    · by_cases hn : k = i + 1 ∨ (i = 0 ∧ k + 1 = l.length)
      · have h3 := (beside_low (by omega) hlt hk hn h1 h2).2
        have h4 := hlow (k - 1) (by omega)
        omega
      · obtain ⟨e1, e2⟩ := ear_after (by omega) (by omega) hk (by omega) h1 h2
        have hc := cut_comm (by omega) (show i + 1 < k by omega) hk (by omega)
        have h3 := red_cut ih (by omega) (i := k - 1) (by omega) e2 h
        rw [hc] at h3
        exact red_ear ih (by omega) (i := i) (by omega) e1 h3
    · by_cases hn : i = k + 1 ∨ (k = 0 ∧ i + 1 = l.length)
      · have h3 := (beside_low (by omega) (show k < i by omega) hi hn h2 h1).1
        have h4 := hlow k (by omega)
        omega
      · obtain ⟨e1, e2⟩ := ear_after (by omega) (show k + 1 < i by omega) hi (by omega) h2 h1
        have hc := cut_comm (by omega) (show k + 1 < i by omega) hi (by omega)
        have h3 := red_cut ih (by omega) (i := k) (by omega) e1 h
        rw [← hc] at h3
        exact red_ear ih (by omega) (i := i - 1) (by omega) e2 h3

theorem rev_getD (l : List Int) (j : Nat) (hj : j < l.length) : l.reverse.getD j 0 = l.getD (l.length - 1 - j) 0 := by
  have h2 : l.length - 1 - j < l.length := by omega
  simp [hj, h2, List.getElem_reverse]
theorem cut_rev {l : List Int} {k : Nat} (hm : 4 ≤ l.length) (hk : k < l.length) : cutL l.reverse (l.length - 1 - k) = (cutL l k).reverse := by
  have hr : l.reverse.length = l.length := List.length_reverse
  have hL := cutL_length l k hk
  have hR := cutL_length l.reverse (l.length - 1 - k) (by omega)
  refine ext_getD (by rw [List.length_reverse]; omega) fun j hj => ?_
  rw [rev_getD _ _ (by omega), cutL_at l.reverse _ j (by omega) (by omega) (by omega), cutL_at l k _ hm hk (by omega), hL, hr]
  have v1 := up_eq (l.length - 1 - k) j
  have v2 := up_eq k (l.length - 1 - 1 - j)
  rw [List.length_reverse] at hR hr
  have hu : upL (l.length - 1 - k) j < l.length := by omega
  rw [rev_getD _ _ hu]
  have e : l.length - 1 - upL (l.length - 1 - k) j = upL k (l.length - 1 - 1 - j) := by omega
  have p1 := pre_eq l.length k
  have p2 := pre_eq l.length (l.length - 1 - k)
  have s1 := suc_eq l.length k
  have s2 := suc_eq l.length (l.length - 1 - k)
  have a : nbL l.length (l.length - 1 - k) (upL (l.length - 1 - k) j) = nbL l.length k (upL k (l.length - 1 - 1 - j)) := nb_swap (by omega) (by omega)
  rw [e, a]
theorem red_rev (f : Nat) : ∀ l : List Int, l.length = f + 3 → red f l = true → red f l.reverse = true := by
  induction f with
  | zero =>
    intro l _ h
    have : l = [1, 1, 1] := by unfold red at h; simpa using h
    subst this
    rfl
  | succ f ih =>
    intro l hl h
    unfold red at h
    rw [Bool.and_eq_true] at h
    obtain ⟨h0, h1⟩ := h
    have h2 := at1_lt l l.length
    have hs : ¬at1 l l.length < 0 := by simpa using h0
    have h3 := at1_one l l.length (by omega)
    generalize hk : (at1 l l.length).toNat = k at *
    have hkl : k < l.length := by omega
    have h4 := ih _ (by rw [cutL_length l k hkl]; omega) h1
    rw [← cut_rev (by omega) hkl] at h4
    refine red_ear (anyEar f) (by rw [List.length_reverse]; exact hl) (i := l.length - 1 - k) (by rw [List.length_reverse]; omega) ?_ h4
    rw [rev_getD _ _ (by omega), show l.length - 1 - (l.length - 1 - k) = k by omega]
    exact h3
/-- a quiddity backwards is one -/
theorem isQ_rev {q : List Int} (h : isQ q = true) : isQ q.reverse = true := by
  have hl := isQ_len h
  rw [isQ_red] at h ⊢
  rw [Bool.and_eq_true] at h ⊢
  obtain ⟨h1, h2⟩ := h
  refine ⟨?_, ?_⟩
  · unfold couldB allB at h1 ⊢
    rw [List.length_reverse, List.all_reverse]
    exact h1
  · rw [List.length_reverse]
    exact red_rev _ q (by omega) h2
end Go.Proofs.Ytlnnnjnboknoeab

/- RqM: The quiddities listed: each comes before the next, each is one, and each quiddity is among them. Plain mathematics. -/
namespace Go.Proofs.Ytlnnnjnboknoeab
open Go.RowKit

def strI : List (List Int) → Bool
  | a :: b :: r => ltI a b && strI (b :: r)
  | _ => true
def qzL (n : Nat) : List (List Int) := QS (qzT n) (qzT n).length
theorem qz_strict : ∀ n : Fin 9, strI (qzL n) = true := by decide +kernel
theorem qz_isQ : ∀ n : Fin 9, 3 ≤ (n : Nat) → ∀ q ∈ qzL n, isQ q = true := by decide +kernel

/-- an ear put back at k -/
def uncL (c : List Int) (k : Nat) : List Int := (List.range (c.length + 1)).map fun j => if j = k then 1 else c.getD (if j < k then j else j - 1) 0 + nbL (c.length + 1) k j
theorem unc_cut {l : List Int} {k : Nat} (hm : 4 ≤ l.length) (hk : k < l.length) (h1 : l.getD k 0 = 1) : uncL (cutL l k) k = l := by
  have hc : (cutL l k).length + 1 = l.length := by rw [cutL_length l k hk]; omega
  have hl : (uncL (cutL l k) k).length = l.length := by unfold uncL; rw [List.length_map, List.length_range, hc]
  refine ext_getD hl fun j hj => ?_
  rw [hl] at hj
  have e : (uncL (cutL l k) k).getD j 0 = if j = k then 1 else (cutL l k).getD (if j < k then j else j - 1) 0 + nbL l.length k j := by
    unfold uncL
    rw [hc]
    simp [hj]
  rw [e]
  by_cases hjk : j = k
  · rw [if_pos hjk, hjk, h1]
  · rw [if_neg hjk]
    by_cases hlt : j < k
    · rw [if_pos hlt, cutL_at l k j hm hk (by omega)]
      have : upL k j = j := by rcases up_eq k j with h | h <;> omega
      rw [this]; omega
    · rw [if_neg hlt, cutL_at l k (j - 1) hm hk (by omega)]
      have : upL k (j - 1) = j := by rcases up_eq k (j - 1) with h | h <;> omega
      rw [this]; omega
def upQ (S T : List (List Int)) : Bool := S.all fun q => (List.range (q.length + 1)).all fun k => T.any fun x => decide (x = uncL q k)
theorem qz_up : ∀ f : Fin 5, upQ (qzL (f + 3)) (qzL (f + 4)) = true := by decide +kernel
theorem qz_one : ([1, 1, 1] : List Int) ∈ qzL 3 := by decide +kernel
theorem red_in : ∀ f, f ≤ 5 → ∀ l : List Int, l.length = f + 3 → red f l = true → l ∈ qzL (f + 3)
  | 0, _, l, _, h => by
    unfold red at h
    rw [of_decide_eq_true h]
    exact qz_one
  | f + 1, hf, l, hl, h => by
    unfold red at h
    rw [Bool.and_eq_true, Bool.not_eq_true', decide_eq_false_iff_not] at h
    obtain ⟨h1, h2⟩ := h
    have ha := at1_lt l l.length
    obtain ⟨k, hk⟩ : ∃ k, k = (at1 l l.length).toNat := ⟨_, rfl⟩
    have h3 := at1_one l l.length (by omega)
    rw [← hk] at h2 h3
    have hkl : k < l.length := by omega
    have hcl := cutL_length l k hkl
    have ih := red_in f (by omega) (cutL l k) (by omega) h2
    have hup := qz_up ⟨f, by omega⟩
    unfold upQ at hup
    have h4 := List.all_eq_true.1 hup _ ih
    have h5 := List.all_eq_true.1 h4 k (List.mem_range.2 (by omega))
    rw [unc_cut (by omega) hkl h3] at h5
    obtain ⟨x, hx, hxe⟩ := List.any_eq_true.1 h5
    rw [of_decide_eq_true hxe] at hx
    exact hx
theorem isQ_in {q : List Int} {n : Nat} (h : isQ q = true) (hl : q.length = n) (h8 : n ≤ 8) : q ∈ qzL n := by
  have h3 := (isQ_len h).1
  rw [isQ_red, Bool.and_eq_true] at h
  have := red_in (q.length - 3) (by omega) q (by omega) h.2
  rw [show q.length - 3 + 3 = n by omega] at this
  exact this
theorem strI_pair : ∀ {L : List (List Int)} {n : Nat}, (∀ x ∈ L, x.length = n) → strI L = true → L.Pairwise (fun a b => ltI a b = true)
  | [], _, _, _ => List.Pairwise.nil
  | [a], _, _, _ => by simp
  | a :: b :: r, n, hn, h => by
    unfold strI at h
    rw [Bool.and_eq_true] at h
    have ih := strI_pair (L := b :: r) (fun x hx => hn x (List.mem_cons_of_mem _ hx)) h.2
    refine List.pairwise_cons.2 ⟨fun c hc => ?_, ih⟩
    rcases List.mem_cons.1 hc with rfl | hc2
    · exact h.1
    · exact ltI_trans a b c (by rw [hn a (by simp), hn b (by simp)]) (by rw [hn b (by simp), hn c (by simp [hc2])]) h.1 ((List.pairwise_cons.1 ih).1 c hc2)
theorem qzL_rows (m : Nat) : ∀ x ∈ qzL m, x.length = m := QS_rows (qzT_rows m) _ (Nat.le_refl _)
theorem qzR_L {m : Nat} (h : inB (m : Int) 3 8 = true) : qzR (m : Int) = qzL m := qzR_yes h
theorem rowOf_at {L : List (List Int)} {j : Nat} (h : j < L.length) : rowOf L j = L[j] := by unfold rowOf; simp [h]
/-- the listed rows of n numbers, and where one lies -/
theorem qzR_srt (n : Int) {a b : Nat} (hab : a < b) (hb : b < (qzR n).length) : ltI (rowOf (qzR n) a) (rowOf (qzR n) b) = true := by
  cases h : inB n 3 8
  · rw [qzR_no h] at hb; simp at hb
  · have := inB_iff'.1 h
    obtain ⟨m, rfl⟩ := Int.eq_ofNat_of_zero_le (show 0 ≤ n by omega)
    rw [qzR_L h] at hb ⊢
    have hp := strI_pair (qzL_rows m) (qz_strict ⟨m, by omega⟩)
    have := List.pairwise_iff_getElem.1 hp a b (Nat.lt_trans hab hb) hb hab
    rw [rowOf_at hb, rowOf_at (Nat.lt_trans hab hb)]
    exact this
def plcI (T : List (List Int)) (l : List Int) : Nat := T.findIdx (fun x => decide (x = l))
theorem plcI_at {T : List (List Int)} {l : List Int} {i : Nat} (hi : i < T.length) (h : rowOf T i = l) (hb : ∀ x, x < i → rowOf T x ≠ l) : plcI T l = i := by
  unfold plcI
  have e : ∀ x, (hx : x < T.length) → rowOf T x = T[x] := fun x hx => by unfold rowOf; simp [hx]
  rw [List.findIdx_eq hi]
  refine ⟨by rw [decide_eq_true_eq, ← e i hi]; exact h, fun x hx => ?_⟩
  rw [decide_eq_false_iff_not, ← e x (by omega)]
  exact hb x hx
theorem plcI_none {T : List (List Int)} {l : List Int} (h : ∀ x, x < T.length → rowOf T x ≠ l) : plcI T l = T.length := by
  unfold plcI
  have e : ∀ x, (hx : x < T.length) → rowOf T x = T[x] := fun x hx => by unfold rowOf; simp [hx]
  refine List.findIdx_eq_length.2 fun y hy => ?_
  obtain ⟨i, hi, rfl⟩ := List.getElem_of_mem hy
  rw [decide_eq_false_iff_not, ← e i hi]
  exact h i hi
def rqB (l : List Int) : Bool := decide (plcI (qzR l.length) l < (qzR l.length).length)
def rqR (l : List Int) : Int := if rqB l = true then (plcI (qzR l.length) l : Int) else 0
theorem rq_no {l : List Int} (h : ∀ x, x < (qzR l.length).length → rowOf (qzR l.length) x ≠ l) : rqB l = false ∧ rqR l = 0 := by
  have hb : rqB l = false := by unfold rqB; rw [plcI_none h]; simp
  exact ⟨hb, by unfold rqR; rw [hb]; rfl⟩
theorem rq_yes {l : List Int} {i : Nat} (hi : i < (qzR l.length).length) (h : rowOf (qzR l.length) i = l) (hb : ∀ x, x < i → rowOf (qzR l.length) x ≠ l) : rqB l = true ∧ rqR l = (i : Int) := by
  have e := plcI_at hi h hb
  have hb : rqB l = true := by unfold rqB; rw [e]; simp [hi]
  exact ⟨hb, by unfold rqR; rw [hb, e]; rfl⟩
/-- a listed row is a quiddity -/
theorem qzR_isQ (n : Int) (x : Nat) (hx : x < (qzR n).length) : inB n 3 8 = true ∧ isQ (rowOf (qzR n) x) = true := by
  cases h : inB n 3 8
  · rw [qzR_no h] at hx; simp at hx
  · have := inB_iff'.1 h
    obtain ⟨m, rfl⟩ := Int.eq_ofNat_of_zero_le (show 0 ≤ n by omega)
    rw [qzR_L h] at hx ⊢
    refine ⟨rfl, ?_⟩
    rw [rowOf_at hx]
    exact qz_isQ ⟨m, by omega⟩ (by show 3 ≤ m; omega) _ (List.getElem_mem _)
/-- a quiddity is listed -/
theorem qzR_has {l : List Int} (h : isQ l = true) (hi : inB (l.length : Int) 3 8 = true) : ∃ i, i < (qzR l.length).length ∧ rowOf (qzR l.length) i = l := by
  have := inB_iff'.1 hi
  have hm := isQ_in h rfl (by omega)
  rw [qzR_L hi]
  obtain ⟨i, hi2, e⟩ := List.getElem_of_mem hm
  exact ⟨i, hi2, by rw [rowOf_at hi2]; exact e⟩
theorem ltI_ne {a b : List Int} (h : ltI a b = true) : a ≠ b := fun e => by rw [e, ltI_irr] at h; cases h
theorem qzR_len (n : Nat) (j : Nat) (hj : j < (qzR (n : Int)).length) : (rowOf (qzR (n : Int)) j).length = n := by
  cases h : inB (n : Int) 3 8
  · rw [qzR_no h] at hj; simp at hj
  · rw [qzR_L h] at hj ⊢
    exact qzL_rows n _ (by rw [rowOf_at hj]; exact List.getElem_mem _)
end Go.Proofs.Ytlnnnjnboknoeab

/- Cnp: How many of the first k rows are of a kind. -/
namespace Go.Proofs.Ytlnnnjnboknoeab
open Go.RowKit
def cntP (P : List (Int × Int) → Bool) (Ls : List (List (Int × Int))) (k : Nat) : Nat := ((Ls.take k).filter P).length
theorem cntP_le (P : List (Int × Int) → Bool) (Ls : List (List (Int × Int))) (k : Nat) : cntP P Ls k ≤ k := by
  unfold cntP
  refine Nat.le_trans (List.length_filter_le _ _) ?_
  simp; omega
theorem cntP_all (P : List (Int × Int) → Bool) (Ls : List (List (Int × Int))) : cntP P Ls Ls.length = (Ls.filter P).length := by unfold cntP; rw [List.take_length]
theorem cntP_step {P : List (Int × Int) → Bool} {Ls : List (List (Int × Int))} {k : Nat} {b : Bool} (hk : k < Ls.length) (h : P (rowD Ls k) = b) : cntP P Ls (k + 1) = cntP P Ls k + (if b = true then 1 else 0) := by
  have e : rowD Ls k = Ls[k] := by unfold rowD; simp [hk]
  rw [e] at h
  unfold cntP
  rw [List.take_succ_eq_append_getElem hk, List.filter_append, List.length_append]
  congr 1
  rw [List.filter_cons, List.filter_nil, h]
  cases b <;> rfl
theorem selP_step {P : List (Int × Int) → Bool} {Ls : List (List (Int × Int))} {k : Nat} (hk : k < Ls.length) : (Ls.take (k + 1)).filter P = (Ls.take k).filter P ++ (if P (rowD Ls k) = true then [rowD Ls k] else []) := by
  have e : rowD Ls k = Ls[k] := by unfold rowD; simp [hk]
  rw [List.take_succ_eq_append_getElem hk, List.filter_append, e]
  congr 1
  rw [List.filter_cons, List.filter_nil]
def CntE (w : World) (x : Int) (ok : Bool) (e : Ending) (w' : World) : Prop := e = .returned (.tuple #[.int .i64 x, .bool ok]) ∧ Below w.heap.size w w'
end Go.Proofs.Ytlnnnjnboknoeab

/- RankOfQuiddityC: The walk of RankOfQuiddity's law, out of the contracts of the model's function and of the program's. -/
namespace Go.Proofs.Ytlnnnjnboknoeab
open Go.RowKit

set_option maxHeartbeats 3200000 in
theorem WRankOfQuiddity.core (w : World) (A0 : Option Addr) (c0 : Nat) (l0 : List Int)
    (h0 : SlI w w.heap.size A0 l0) (hm0 : l0.length ≤ c0) (hx0 : c0 ≤ maxLen)
    (r0 : Int) (r1 : Bool) (hs : Hid (∀ (A0 : Option Addr) (c0 : Nat) (w : World), SlI w w.heap.size A0 l0 → l0.length ≤ 1048576 → l0.length ≤ c0 → Calls Try.prog 45 #[.slice A0 l0.length c0] w (fun e w' => e = .returned (.tuple #[.int .i64 r0, .bool r1]) ∧ Below w.heap.size w w')))
    (hi : Hid (∀ (A0 : Option Addr) (c0 : Nat) (w : World), SlI w w.heap.size A0 l0 → l0.length ≤ 1048576 → l0.length ≤ c0 → Calls Try.prog 46 #[.slice A0 l0.length c0] w (fun e w' => e = .returned (.tuple #[.int .i64 r0, .bool r1]) ∧ Below w.heap.size w w'))) :
    Calls Try.prog 12 #[.slice A0 l0.length c0] w fun e w' => e = .returned (.bool true) ∧ Below w.heap.size w w' := by
  by_cases hl0 : l0.length ≤ 1048576
  · have hzero := Below.refl w.heap.size w
    go_enter Try.func12, Try.ntmps12
    go_wp2_with fail
    have hd := hzero
    clear hzero
    refine (laws_toIntS A0 c0 w.heap.size l0 _ (h0.below hd) hd.size hl0).mono ?_
    rintro e whT0 ⟨rfl, hT0, hb⟩
    replace hd := below_kept hd (Nat.le_refl _) hb
    clear hb
    go_wp2_with fail
    refine (hs.out _ _ _ (SlI.of_own hT0) hl0 (Nat.le_refl _)).mono ?_
    rintro e whW ⟨rfl, hb⟩
    replace hd := below_kept hd (Nat.le_refl _) hb
    clear hb
    clear hT0
    go_wp2_with fail
    refine (laws_toIntS A0 c0 w.heap.size l0 _ (h0.below hd) hd.size hl0).mono ?_
    rintro e whX0 ⟨rfl, hX0, hb⟩
    replace hd := below_kept hd (Nat.le_refl _) hb
    clear hb
    go_wp2_with fail
    refine (hi.out _ _ _ (SlI.of_own hX0) hl0 (Nat.le_refl _)).mono ?_
    rintro e whG ⟨rfl, hb⟩
    replace hX0 := own_kept hX0 hb
    replace hd := below_kept hd (Nat.le_refl _) hb
    clear hb
    go_wp2_with fail
    refine (laws_toIntS A0 c0 w.heap.size l0 _ (h0.below hd) hd.size hl0).mono ?_
    rintro e whY0 ⟨rfl, hY0, hb⟩
    replace hX0 := own_kept hX0 hb
    replace hd := below_kept hd (Nat.le_refl _) hb
    clear hb
    go_wp2_with fail
    refine (laws_eqIntS _ _ _ _ _ _ _ _ (SlI.of_own hX0) (SlI.of_own hY0) (by omega)).mono ?_
    rintro e wq1 ⟨rfl, hb⟩
    replace hX0 := own_kept hX0 hb
    replace hY0 := own_kept hY0 hb
    replace hd := below_kept hd (Nat.le_refl _) hb
    clear hb
    go_wp2_with fail
    clear hY0
    clear hs hi hX0 h0
    go_wp2
    go_ret
    exact ⟨rfl, hd⟩
  · have hdd := Below.refl w.heap.size w
    clear h0 hs hi
    go_enter Try.func12, Try.ntmps12
    go_wp2_with fail
    go_ret
    exact ⟨rfl, hdd⟩

end Go.Proofs.Ytlnnnjnboknoeab

/- RankOfQuiddityW: RankOfQuiddity: both sides, and the law's walk. -/
namespace Go.Proofs.Ytlnnnjnboknoeab
open Go.RowKit

theorem cmpI_tr {a b c : List Int} (h1 : a.length = b.length) (h2 : b.length = c.length) (h3 : cmpI a b < 0) (h4 : cmpI b c < 0) : cmpI a c < 0 := by
  have e := fun x y => cmpI_lt x y
  have h5 := e a b; rw [decide_eq_true h3] at h5
  have h6 := e b c; rw [decide_eq_true h4] at h6
  have h7 := e a c; rw [ltI_trans a b c h1 h2 h5.symm h6.symm] at h7
  exact of_decide_eq_true h7
theorem cmpI_of {a b : List Int} (h : ltI a b = true) : cmpI a b < 0 := of_decide_eq_true (by rw [cmpI_lt]; exact h)
theorem cmpI_ne {a b : List Int} (h : cmpI a b < 0) : a ≠ b := fun e => by
  have h5 := cmpI_lt a b
  rw [decide_eq_true h, e, ltI_irr] at h5
  cases h5

/-- how many of the first t rows come before the row at i -/
theorem rk_step {T : List (List Int)} {l : List Int} {i t : Nat} (hs : ∀ a b, a < b → b < T.length → ltI (rowOf T a) (rowOf T b) = true) (hr : ∀ j, j < T.length → (rowOf T j).length = l.length) (hi : i < T.length) (he : rowOf T i = l) (ht : t < T.length) :
    ltI (rowOf T t) l = decide (t < i) := by
  rw [← he]
  rcases Nat.lt_trichotomy t i with h | h | h
  · rw [hs t i h hi, decide_eq_true h]
  · rw [h, ltI_irr]; simp
  · have h2 := hs i t h ht
    have h3 : ¬ t < i := by omega
    rw [decide_eq_false h3]
    cases hx : ltI (rowOf T t) (rowOf T i)
    · rfl
    · have := ltI_trans _ _ _ (by rw [hr i hi, hr t ht]) (by rw [hr i hi, hr t ht]) h2 hx
      rw [ltI_irr] at this
      cases this

set_option maxRecDepth 100000 in
set_option maxHeartbeats 3200000 in
theorem spec_RankOfQuiddity (A : Option Addr) (c B : Nat) (l : List Int) (w : World) (h : SlI w B A l) (hB : B ≤ w.heap.size) (hl : l.length ≤ 1048576) (hlc : l.length ≤ c) :
    Calls Try.prog 45 #[.slice A l.length c] w (CntE w (rqR l) (rqB l)) := by
  have H := Lib.hid h
  clear h
  have hno : ∀ w', Below w.heap.size w w' → (∀ x, x < (qzR l.length).length → rowOf (qzR l.length) x ≠ l) → CntE w (rqR l) (rqB l) (.returned (.tuple #[.int .i64 0, .bool false])) w' := fun w' hb hx => by
    rw [(rq_no hx).1, (rq_no hx).2]
    exact ⟨rfl, hb⟩
  have Hno := Lib.hid hno
  clear hno
  go_enter Try.func45, Try.ntmps45
  go_wp2_with fail
  refine (spec_caFew _ _).mono ?_
  rintro e w2 ⟨rfl, rfl⟩
  cases hf : inB (l.length : Int) 3 8
  · have Hres := Lib.hid (Hno.out w (Below.refl _ _) (fun x hx => by rw [qzR_no hf] at hx; simp at hx))
    clear hf Hno
    go_wp2
    go_ret2
    exact Hres.out
  · have Hf := Lib.hid hf
    clear hf
    go_wp2_with fail
    refine (spec_IsQuiddity A c B l _ H.out hB hl hlc).mono ?_
    rintro e w1 ⟨rfl, hb1⟩
    cases ht : isQ l
    · have Hres := Lib.hid (Hno.out w1 hb1 (fun x hx e => by
        have := (qzR_isQ _ x hx).2
        rw [e, ht] at this
        simp at this))
      clear ht Hno hb1
      go_wp2
      go_ret2
      exact Hres.out
    · obtain ⟨i, hi, he⟩ := qzR_has ht Hf.out
      have hn := inB_iff'.1 Hf.out
      obtain ⟨m, hm⟩ : ∃ m, l.length = m := ⟨_, rfl⟩
      have hsrt : ∀ a b, a < b → b < (qzR (l.length : Int)).length → ltI (rowOf (qzR (l.length : Int)) a) (rowOf (qzR (l.length : Int)) b) = true := fun a b h1 h2 => qzR_srt _ h1 h2
      have hrow := qzR_len l.length
      have hres : ∀ w', Below w.heap.size w w' → CntE w (rqR l) (rqB l) (.returned (.tuple #[.int .i64 (i : Nat), .bool true])) w' := fun w' hb => by
        obtain ⟨e1, e2⟩ := rq_yes hi he (fun x hx e => ltI_ne (hsrt x i hx hi) (by rw [e, he]))
        rw [e1, e2]
        exact ⟨rfl, hb⟩
      have Hres := Lib.hid hres
      have Hst := Lib.hid fun t ht => rk_step hsrt hrow hi he (t := t) ht
      have hqz := qzR_yes Hf.out
      have hlen : (qzR (l.length : Int)).length = (qzT l.length).length := by rw [hqz]; exact QS_length _ _ (Nat.le_refl _)
      have Hc := Lib.hid (spec_caQuiddities l.length w1 (by omega) (by omega))
      rw [← hqz] at Hc
      have Hrow := Lib.hid hrow
      have hbd := (qzR_bd (l.length : Int)).1
      have Hl := Lib.hid hlen
      rw [hlen] at hi hbd
      have HB1 := Lib.hid hb1
      have Hs1 := Lib.hid (H.out.below (hb1.mono hB))
      have z1 := Nat.le_trans hB hb1.size
      have Hm := Lib.hid hm
      generalize qzR (l.length : Int) = T at *
      obtain ⟨tl, htl⟩ : ∃ tl, (qzT l.length).length = tl := ⟨_, rfl⟩
      rw [htl] at Hl hi hbd Hc
      rw [hm] at Hc Hrow ⊢
      have m8 : m ≤ 8 := by omega
      clear ht he hn hm hsrt hrow hres hqz hlen hb1 Hno H hl hlc htl Hf
      go_wp2_with fail
      refine Hc.out.mono ?_
      rintro e w2 ⟨A2, c2, rs, rfl, o2, b2⟩
      have HO := Lib.hid o2
      have HB := Lib.hid (below_kept HB1.out (Nat.le_refl _) b2)
      have Hs2 := Lib.hid (Hs1.out.below (b2.mono z1))
      have z2 := Nat.le_trans z1 b2.size
      clear o2 b2 Hc Hs1
      go_wp2
      go_loopw [4, 6, 20] (fun rk _ iv wr => ∃ (t : Nat), t ≤ tl ∧ iv = .int .i64 t ∧ rk = .int .i64 (if t ≤ i then t else i : Nat) ∧ Below w2.heap.size w2 wr) (fun _ _ iv _ => tl - (intOf iv).toNat)
      case atStart => exact ⟨0, Nat.zero_le _, rfl, by simp, Below.refl _ _⟩
      case round =>
        obtain ⟨t, ht, rfl, rfl, hb⟩ := hrel
        have hsz := hb.size
        by_cases hlt : t < tl
        · have htl2 : t < T.length := by rw [Hl.out]; exact hlt
          obtain ⟨g, rfl, hg1, hg2, hcell⟩ := HO.out.outer (by omega)
          have ho := own_kept (HO.out.2.2.1 t htl2) hb
          have htq := Hrow.out t htl2
          rw [htq] at ho
          obtain ⟨Aj, cj, hv⟩ := own_form ho
          have hc : wr.cell? ⟨g, t, none⟩ = some (.slice Aj m cj) := by
            rw [hb.cell (p := ⟨g, t, none⟩) hg2, hcell t htl2, hv]
          rw [hv] at ho
          have hst := Hst.out t htl2
          have hcall := spec_caListBefore Aj A cj c wr.heap.size B m (rowOf T t) l wr htq Hm.out (SlI.of_own ho) (Hs2.out.below (hb.mono z2)) (Nat.le_refl _) (Nat.le_trans z2 hsz) (by omega)
          rw [hst] at hcall
          have Hcall := Lib.hid hcall
          have i0 : (0 : Int) ≤ (t : Int) := by omega
          have i1 : (t : Int) < (tl : Int) := by omega
          have Hb := Lib.hid hb
          obtain ⟨r, hr⟩ : ∃ r, r = (if t ≤ i then t else i : Nat) := ⟨_, rfl⟩
          have r1 : (if t + 1 ≤ i then t + 1 else i : Nat) = if t < i then r + 1 else r := by rw [hr]; split <;> split <;> first | omega | (split <;> omega)
          have r2 : r ≤ 1000 := by rw [hr]; split <;> omega
          rw [← hr]
          have R1 := Lib.hid r1
          clear ho hv hb hcell htq hst hcall hr r1
          go_wp2_with fail
          refine Hcall.out.mono ?_
          rintro e w4 ⟨rfl, b4⟩
          have B4 := Lib.hid (below_kept Hb.out (Nat.le_refl _) b4)
          clear b4
          by_cases hx : t < i
          · have e1 : decide (t < i) = true := decide_eq_true hx
            have R2 := Lib.hid (show (if t + 1 ≤ i then t + 1 else i : Nat) = r + 1 by rw [R1.out, if_pos hx])
            rw [e1]
            clear hx e1
            go_wp2
            go_roundw
            case rel => exact ⟨t + 1, by omega, by go_num, by rw [R2.out]; go_num, B4.out⟩
            case measure => simp [intOf]; omega
          · have e1 : decide (t < i) = false := decide_eq_false hx
            have R2 := Lib.hid (show (if t + 1 ≤ i then t + 1 else i : Nat) = r by rw [R1.out, if_neg hx])
            rw [e1]
            clear hx e1
            go_wp2
            go_roundw
            case rel => exact ⟨t + 1, by omega, by go_num, by rw [R2.out], B4.out⟩
            case measure => simp [intOf]; omega
        · obtain rfl : t = tl := by omega
          have e1 : (if t ≤ i then t else i : Nat) = i := by split <;> omega
          rw [e1]
          have HR := Lib.hid (Hres.out wr (below_kept HB.out (Nat.le_refl _) hb))
          clear hb e1
          go_wp2
          go_ret2
          exact HR.out

/-- what a binary search tells: how many come before, and whether the next one is it -/
def SrchQ (w : World) (T : List (List Int)) (l : List Int) (e : Ending) (w' : World) : Prop :=
  ∃ (i : Nat) (f : Bool), e = .returned (.tuple #[.int .i64 i, .bool f]) ∧ (f = true → i < T.length ∧ rowOf T i = l ∧ ∀ x, x < i → rowOf T x ≠ l) ∧ (f = false → ∀ x, x < T.length → rowOf T x ≠ l) ∧ Below w.heap.size w w'


set_option maxRecDepth 100000 in
set_option maxHeartbeats 3200000 in
theorem slices_BinarySearchSS (A A2 : Option Addr) (c c2 base m q B : Nat) (rs : List Value) (T : List (List Int)) (l : List Int) (w : World) (hO : OwnSS w base A c rs T) (hm : T.length = m) (h : SlI w B A2 l) (hq : l.length = q) (hB : B ≤ w.heap.size) (hm9 : m ≤ 1000) (hq9 : 0 < m → q ≤ 1000)
    (hr9 : ∀ j, j < m → (rowOf T j).length = q) (hs : ∀ a b, a < b → b < m → cmpI (rowOf T a) (rowOf T b) < 0) :
    Calls Try.prog 95 #[.slice A m c, .slice A2 q c2, .func (.func 78) #[] #[]] w (SrchQ w T l) := by
  have HO := Lib.hid hO
  have Hm := Lib.hid hm
  have H := Lib.hid h
  have Hq := Lib.hid hq
  have Hr9 := Lib.hid hr9
  have Hs := Lib.hid hs
  clear hO hm h hq hr9 hs
  go_enter Try.func95, Try.ntmps95
  go_wp2
  go_loopw [9, 10, 11] (fun i j _ wr => ∃ a b : Nat, a ≤ b ∧ b ≤ m ∧ i = .int .i64 a ∧ j = .int .i64 b ∧ (∀ x, x < a → cmpI (rowOf T x) l < 0) ∧ (∀ x, b ≤ x → x < m → 0 ≤ cmpI (rowOf T x) l) ∧ Below w.heap.size w wr) (fun i j _ _ => (intOf j).toNat - (intOf i).toNat)
  case atStart => exact ⟨0, m, Nat.zero_le _, Nat.le_refl _, rfl, rfl, fun x hx => by omega, fun x h1 h2 => by omega, Below.refl _ _⟩
  case round =>
    obtain ⟨a, b, hab, hbm, rfl, rfl, hlo, hhi, hb⟩ := hrel
    have hsz := hb.size
    have Hlo := Lib.hid hlo
    have Hhi := Lib.hid hhi
    have Hb := Lib.hid hb
    clear hlo hhi hb
    by_cases hlt : a < b
    · obtain ⟨k, hk⟩ : ∃ k, k = (a + b) / 2 := ⟨_, rfl⟩
      have hk1 : a ≤ k := by omega
      have hk2 : k < b := by omega
      have hkm : k < T.length := by rw [Hm.out]; omega
      obtain ⟨g, rfl, hg1, hg2, hcell⟩ := HO.out.outer (by omega)
      have ho := own_kept (HO.out.2.2.1 k hkm) Hb.out
      have hrq := Hr9.out k (by omega)
      rw [hrq] at ho
      obtain ⟨Aj, cj, hv⟩ := own_form ho
      have hc : wr.cell? ⟨g, k, none⟩ = some (.slice Aj q cj) := by
        rw [Hb.out.cell (p := ⟨g, k, none⟩) hg2, hcell k hkm, hv]
      rw [hv] at ho
      have hcall := slices_CompareI Aj A2 cj c2 wr.heap.size B q (rowOf T k) l wr hrq Hq.out (SlI.of_own ho) (H.out.below (Hb.out.mono hB)) (hq9 (by omega))
      have Hcall := Lib.hid hcall
      have a0 : (a : Int) < (b : Int) := by omega
      have hdiv : ((a : Int) + (b : Int)) / 2 = (k : Int) := by omega
      have hs0 : (0 : Int) ≤ (a : Int) + (b : Int) := by omega
      have hs1 : (a : Int) + (b : Int) ≤ 2000 := by omega
      have k0 : (0 : Int) ≤ (k : Int) := by omega
      have k1 : (k : Int) < (m : Int) := by omega
      have k2 : (k : Int) ≤ 1000 := by omega
      clear ho hv hcell hk hcall
      go_wp2_with fail
      refine Hcall.out.mono ?_
      rintro e w3 ⟨rfl, rfl⟩
      have B3 := Hb
      clear Hcall hc
      by_cases hz : cmpI (rowOf T k) l < 0
      · have HL := Lib.hid (show ∀ x, x < k + 1 → cmpI (rowOf T x) l < 0 from fun x hx => by
          by_cases e : x = k
          · rw [e]; exact hz
          · exact cmpI_tr (by rw [Hr9.out x (by omega), Hr9.out k (by omega)]) (by rw [Hr9.out k (by omega), Hq.out]) (Hs.out x k (by omega) (by omega)) hz)
        generalize cmpI (rowOf T k) l = z at *
        go_wp2
        go_roundw
        case rel => exact ⟨k + 1, b, by omega, by omega, by go_num, rfl, HL.out, Hhi.out, B3.out⟩
        case measure => simp [intOf]; omega
      · have HR := Lib.hid (show ∀ x, k ≤ x → x < m → 0 ≤ cmpI (rowOf T x) l from fun x h1 h2 => by
          by_cases e : x = k
          · rw [e]; omega
          · refine Int.not_lt.1 fun h3 => hz (cmpI_tr (by rw [Hr9.out x (by omega), Hr9.out k (by omega)]) (by rw [Hr9.out x (by omega), Hq.out]) (Hs.out k x (by omega) h2) h3))
        generalize cmpI (rowOf T k) l = z at *
        go_wp2
        go_roundw
        case rel => exact ⟨a, k, by omega, by omega, rfl, rfl, Hlo.out, HR.out, B3.out⟩
        case measure => simp [intOf]; omega
    · obtain rfl : a = b := by omega
      by_cases hlm : a < m
      · have hkm : a < T.length := by rw [Hm.out]; omega
        obtain ⟨g, rfl, hg1, hg2, hcell⟩ := HO.out.outer (by omega)
        have ho := own_kept (HO.out.2.2.1 a hkm) Hb.out
        have hrq := Hr9.out a hlm
        rw [hrq] at ho
        obtain ⟨Aj, cj, hv⟩ := own_form ho
        have hc : wr.cell? ⟨g, a, none⟩ = some (.slice Aj q cj) := by
          rw [Hb.out.cell (p := ⟨g, a, none⟩) hg2, hcell a hkm, hv]
        rw [hv] at ho
        have hcall := slices_CompareI Aj A2 cj c2 wr.heap.size B q (rowOf T a) l wr hrq Hq.out (SlI.of_own ho) (H.out.below (Hb.out.mono hB)) (hq9 (by omega))
        have Hcall := Lib.hid hcall
        have k0 : (0 : Int) ≤ (a : Int) := by omega
        have k1 : (a : Int) < (m : Int) := by omega
        have Hfin := Lib.hid (show ∀ (w3 : World) (f : Bool), f = decide (cmpI (rowOf T a) l = 0) → Below w.heap.size w w3 → SrchQ w T l (.returned (.tuple #[.int .i64 a, .bool f])) w3 from fun w3 f hf hb3 => by
          refine ⟨a, f, rfl, fun hft => ?_, fun hff => ?_, hb3⟩
          · rw [hft] at hf
            exact ⟨hkm, (cmpI_zero _ _ (by rw [hrq, Hq.out])).1 (of_decide_eq_true hf.symm), fun x hx => cmpI_ne (Hlo.out x hx)⟩
          · rw [hff] at hf
            have hne := of_decide_eq_false hf.symm
            intro x hx e
            rcases Nat.lt_trichotomy x a with h1 | h1 | h1
            · exact cmpI_ne (Hlo.out x h1) e
            · rw [h1] at e; exact hne ((cmpI_zero _ _ (by rw [hrq, Hq.out])).2 e)
            · have := Hs.out a x h1 (by rw [← Hm.out]; exact hx)
              rw [e] at this
              exact Int.not_lt.2 (Hhi.out a (Nat.le_refl _) hlm) this)
        clear ho hv hcell hcall
        go_wp2_with fail
        refine Hcall.out.mono ?_
        rintro e w3 ⟨rfl, rfl⟩
        have B3 := Hb
        clear Hcall hc
        obtain ⟨z, hz⟩ : ∃ z, cmpI (rowOf T a) l = z := ⟨_, rfl⟩
        rw [hz] at Hfin ⊢
        clear hz
        by_cases hz0 : z = 0
        · subst hz0
          have Hres := Lib.hid (Hfin.out wr true rfl B3.out)
          clear Hfin
          go_wp2
          go_ret2
          exact Hres.out
        · have hzb : (z == 0) = false := by simpa using hz0
          have Hres := Lib.hid (Hfin.out wr false (by simp [hz0]) B3.out)
          clear Hfin hz0
          go_wp2
          go_ret2
          exact Hres.out
      · have hres : SrchQ w T l (.returned (.tuple #[.int .i64 a, .bool false])) wr := ⟨a, false, rfl, fun h => by simp at h, fun _ x hx => cmpI_ne (Hlo.out x (by have := Hm.out; omega)), Hb.out⟩
        have Hres := Lib.hid hres
        have k1 : ¬ (a : Int) < (m : Int) := by omega
        clear hres
        go_wp2
        go_ret2
        exact Hres.out

theorem impl_rankOfQ (A A2 : Option Addr) (c c2 base m q B : Nat) (rs : List Value) (l : List Int) (w : World) (hO : OwnSS w base A c rs (qzR l.length)) (hm : (qzR l.length).length = m) (h : SlI w B A2 l) (hq : l.length = q) (hB : B ≤ w.heap.size) :
    Calls Try.prog 77 #[.slice A2 q c2, .slice A m c, .func (.func 78) #[] #[]] w (CntE w (rqR l) (rqB l)) := by
  have hbd := (qzR_bd (l.length : Int)).1
  have hrow := qzR_len l.length
  have h8 : 0 < m → q ≤ 1000 := fun h0 => by have := qzR_row (l.length : Int) 0 (by omega); rw [hrow 0 (by omega)] at this; omega
  have Hs := Lib.hid (slices_BinarySearchSS A A2 c c2 base m q B rs (qzR l.length) l w hO hm h hq hB (by omega) h8 (fun j hj => by rw [hrow j (by omega)]; exact hq) (fun a b h1 h2 => cmpI_of (qzR_srt _ h1 (by omega))))
  clear hO h hm hbd hrow h8
  go_enter Try.func77, Try.ntmps77
  go_wp2_with fail
  refine Hs.out.mono ?_
  rintro e w1 ⟨i, f, rfl, hyes, hno, hb⟩
  cases f
  · have hx := hno rfl
    have hres : CntE w (rqR l) (rqB l) (.returned (.tuple #[.int .i64 0, .bool false])) w1 := by
      rw [(rq_no hx).1, (rq_no hx).2]
      exact ⟨rfl, hb⟩
    have Hres := Lib.hid hres
    clear hres hx hno hyes hb Hs
    go_wp2
    go_ret2
    exact Hres.out
  · obtain ⟨h1, h2, h3⟩ := hyes rfl
    have hres : CntE w (rqR l) (rqB l) (.returned (.tuple #[.int .i64 i, .bool true])) w1 := by
      rw [(rq_yes h1 h2 h3).1, (rq_yes h1 h2 h3).2]
      exact ⟨rfl, hb⟩
    have Hres := Lib.hid hres
    clear hres h1 h2 h3 hno hyes hb Hs
    go_wp2
    go_ret2
    exact Hres.out

set_option maxRecDepth 100000 in
set_option maxHeartbeats 1600000 in
theorem impl_RankOfQuiddity (A : Option Addr) (c B : Nat) (l : List Int) (w : World) (h : SlI w B A l) (hB : B ≤ w.heap.size) (hl : l.length ≤ 1048576) (hlc : l.length ≤ c) :
    Calls Try.prog 46 #[.slice A l.length c] w (CntE w (rqR l) (rqB l)) := by
  have H := Lib.hid h
  clear h
  have Hall := Lib.hid (impl_AllQuiddities l.length w)
  obtain ⟨q, hq⟩ : ∃ q, l.length = q := ⟨_, rfl⟩
  rw [hq] at hl hlc Hall ⊢
  have Hq := Lib.hid hq
  clear hq
  go_enter Try.func46, Try.ntmps46
  go_wp2_with fail
  refine Hall.out.mono ?_
  rintro e w1 ⟨A1, c1, rs, rfl, o1, b1⟩
  obtain ⟨t, ht⟩ : ∃ t, (qzR (q : Int)).length = t := ⟨_, rfl⟩
  have o1' : OwnSS w1 w.heap.size A1 c1 rs (qzR (l.length : Int)) := by rw [Hq.out]; exact o1
  have ht' : (qzR (l.length : Int)).length = t := by rw [Hq.out]; exact ht
  have Hc := Lib.hid (impl_rankOfQ A1 A c1 c w.heap.size t q B rs l w1 o1' ht' (H.out.below (b1.mono hB)) Hq.out (Nat.le_trans hB b1.size))
  rw [ht]
  have B1 := Lib.hid b1
  clear o1 o1' ht' b1 ht Hall
  go_wp2_with fail
  refine Hc.out.mono ?_
  rintro e w2 ⟨rfl, b2⟩
  have hres : CntE w (rqR l) (rqB l) (.returned (.tuple #[.int .i64 (rqR l), .bool (rqB l)])) w2 := ⟨rfl, below_kept B1.out (Nat.le_refl _) b2⟩
  have Hres := Lib.hid hres
  clear hres b2 Hc
  go_wp2
  go_ret2
  exact Hres.out

theorem WRankOfQuiddity.walk (w : World) (A : Option Addr) (c : Nat) (l : List Int) (h : SlI w w.heap.size A l)
    (hj : l.length ≤ c ∧ c ≤ maxLen ∧ ∀ x ∈ l, (Lit.int .i64 x).wf = true) :
    Calls Try.prog 12 #[.slice A l.length c] w fun e w' => e = .returned (.bool true) ∧ Below w.heap.size w w' :=
  WRankOfQuiddity.core w A c l h hj.1 hj.2.1 (rqR l) (rqB l)
    (Lib.hid fun A c w h hl hlc => spec_RankOfQuiddity A c _ l w h (Nat.le_refl _) hl hlc)
    (Lib.hid fun A c w h hl hlc => impl_RankOfQuiddity A c _ l w h (Nat.le_refl _) hl hlc)
end Go.Proofs.Ytlnnnjnboknoeab
