/- A cut with a diagonal more: mathematics. -/
import Derived.Test.YtlnnnjnboknoeaaPcM
import Derived.Test.YtlnnnjnboknoeaaFlipM
import Derived.Test.YtlnnnjnboknoeaaAllD
import Derived.Test.YtlnnnjnboknoeaaInsD
namespace Go.Proofs.Ytlnnnjnboknoeaa
set_option linter.unusedVariables false

def ltD (d e : Int × Int) : Prop := ltB d.1 d.2 e.1 e.2 = true
instance (d e : Int × Int) : Decidable (ltD d e) := inferInstanceAs (Decidable (_ = true))
theorem ltD_irr {d e : Int × Int} (h : ltD d e) : d ≠ e := fun e' => by
  subst e'
  have := ltB_iff.1 h
  omega
theorem ltD_tot {d e : Int × Int} (h : ¬ltD d e) (hne : e ≠ d) : ltD e d := by
  unfold ltD at *
  rw [ltB_iff] at *
  obtain ⟨a, b⟩ := d
  obtain ⟨x, y⟩ := e
  dsimp only at *
  have : ¬(x = a ∧ y = b) := fun h => hne (by rw [h.1, h.2])
  omega
theorem ltD_tr {d e f : Int × Int} (h1 : ltD d e) (h2 : ltD e f) : ltD d f := ltB_tr h1 h2
theorem ltD_as {d e : Int × Int} (h1 : ltD d e) : ¬ltD e d := fun h2 => ltD_irr (ltD_tr h1 h2) rfl
theorem crB_comm (d e : Int × Int) : crB d.1 d.2 e.1 e.2 = crB e.1 e.2 d.1 d.2 := bool_ext (by rw [crB_iff, crB_iff]; omega)
theorem crB_self (d : Int × Int) : crB d.1 d.2 d.1 d.2 = false := crB_no.2 (by omega)

theorem cut_iff {n : Int} {l : List (Int × Int)} : cutB n l = true ↔ poB n = true ∧ (∀ e ∈ l, dgB n e.1 e.2 = true) ∧ l.Pairwise ltD ∧ ∀ e ∈ l, ∀ f ∈ l, crB e.1 e.2 f.1 f.2 = false := by
  have hsp : cutB n l = (poB n && (ordB n l && ncTo l l.length)) := by unfold cutB; rw [uncB_split]
  rw [hsp, Bool.and_eq_true, Bool.and_eq_true]
  constructor
  · rintro ⟨h1, h2, h3⟩
    refine ⟨h1, fun e he => ?_, List.pairwise_iff_getElem.2 fun i j hi hj hij => ord_lt h2 j hj hij, ?_⟩
    · obtain ⟨i, hi, rfl⟩ := List.getElem_of_mem he
      exact (ord_at h2 hi).1
    · have key : ∀ i j : Nat, (hi : i < l.length) → (hj : j < i) → crB l[i].1 l[i].2 (l[j]'(by omega)).1 (l[j]'(by omega)).2 = false := fun i j hi hj => by
        unfold ncTo at h3
        rw [List.all_eq_true] at h3
        have := h3 i (List.mem_range.2 hi)
        rw [getD_at hi] at this
        simp only [Bool.not_eq_true'] at this
        exact anyCross_mem this (List.mem_take_iff_getElem.2 ⟨j, by omega, rfl⟩)
      intro e he f hf
      obtain ⟨i, hi, rfl⟩ := List.getElem_of_mem he
      obtain ⟨j, hj, rfl⟩ := List.getElem_of_mem hf
      rcases Nat.lt_trichotomy i j with h | rfl | h
      · rw [crB_comm]; exact key j i hj h
      · exact crB_self _
      · exact key i j hi h
  · rintro ⟨h1, h2, h3, h4⟩
    refine ⟨h1, ?_, ?_⟩
    · unfold ordB ordTo
      rw [List.all_eq_true]
      intro i hi
      have hi := List.mem_range.1 hi
      unfold ordAt
      rw [getD_at hi, h2 _ (List.getElem_mem hi), Bool.true_and]
      by_cases h0 : i = 0
      · simp [h0]
      · rw [getD_at (by omega : i - 1 < l.length)]
        have : ltB (l[i - 1]'(by omega)).1 (l[i - 1]'(by omega)).2 l[i].1 l[i].2 = true := List.pairwise_iff_getElem.1 h3 (i - 1) i (by omega) hi (by omega)
        rw [this]
        simp
    · unfold ncTo
      rw [List.all_eq_true]
      intro i hi
      have hi := List.mem_range.1 hi
      rw [getD_at hi, anyCross_none fun e he => h4 _ (List.getElem_mem hi) _ (List.mem_of_mem_take he)]
      rfl

theorem mem_insD {L : List (Int × Int)} {i : Nat} {d e : Int × Int} : e ∈ insD L i d ↔ e = d ∨ e ∈ L := by
  unfold insD
  conv => rhs; rw [← List.take_append_drop i L]
  simp only [List.mem_append, List.mem_singleton]
  constructor
  · rintro ((h | h) | h)
    · exact .inr (.inl h)
    · exact .inl h
    · exact .inr (.inr h)
  · rintro (h | h | h)
    · exact .inl (.inr h)
    · exact .inl (.inl h)
    · exact .inr h
/-- is a diagonal one that a cut can have more? -/
def freB (n : Int) (l : List (Int × Int)) (d : Int × Int) : Bool := dgB n d.1 d.2 && !decide (d ∈ l) && !anyCross d l
theorem freB_iff {n : Int} {l : List (Int × Int)} {d : Int × Int} : freB n l d = true ↔ dgB n d.1 d.2 = true ∧ d ∉ l ∧ anyCross d l = false := by
  unfold freB
  rw [Bool.and_eq_true, Bool.and_eq_true, Bool.not_eq_true', Bool.not_eq_true', decide_eq_false_iff_not, and_assoc]
def addB (n : Int) (l : List (Int × Int)) (d : Int × Int) : Bool := cutB n l && freB n l d
def addR (n : Int) (l : List (Int × Int)) (d : Int × Int) : List (Int × Int) := if addB n l d = true then sortD (l ++ [d]) else []
theorem addR_no {n : Int} {l : List (Int × Int)} {d : Int × Int} (h : addB n l d = false) : addR n l d = [] := by unfold addR; rw [h]; rfl
theorem addR_yes {n : Int} {l : List (Int × Int)} {d : Int × Int} (h : addB n l d = true) : addR n l d = sortD (l ++ [d]) := by unfold addR; rw [if_pos h]
/-- where the diagonal's place is in a list in order -/
def PosD (l : List (Int × Int)) (d : Int × Int) (i : Nat) : Prop := i ≤ l.length ∧ (l.Pairwise ltD → (∀ e ∈ l.take i, ltD e d) ∧ ∀ e ∈ l.drop i, ¬ltD e d)
theorem ins_pair {l : List (Int × Int)} {d : Int × Int} {i : Nat} : (insD l i d).Pairwise ltD ↔ l.Pairwise ltD ∧ (∀ e ∈ l.take i, ltD e d) ∧ ∀ e ∈ l.drop i, ltD d e := by
  unfold insD
  rw [List.append_assoc, List.pairwise_append, List.singleton_append, List.pairwise_cons]
  conv => rhs; rw [← List.take_append_drop i l, List.pairwise_append]
  simp only [List.mem_cons, List.take_append_drop]
  constructor
  · rintro ⟨h1, ⟨h2, h3⟩, h4⟩
    exact ⟨⟨h1, h3, fun a ha b hb => h4 a ha b (.inr hb)⟩, fun e he => h4 e he d (.inl rfl), h2⟩
  · rintro ⟨⟨h1, h2, h3⟩, h4, h5⟩
    refine ⟨h1, ⟨h5, h2⟩, fun a ha b hb => ?_⟩
    rcases hb with rfl | hb
    · exact h4 a ha
    · exact h3 a ha b hb
theorem cut_ins {n : Int} {l : List (Int × Int)} {d : Int × Int} {i : Nat} (hp : PosD l d i) : cutB n (insD l i d) = addB n l d := by
  refine bool_ext ?_
  unfold addB
  rw [Bool.and_eq_true, freB_iff, cut_iff, cut_iff, ins_pair]
  constructor
  · rintro ⟨h1, h2, ⟨h3, h4, h5⟩, h6⟩
    refine ⟨⟨h1, fun e he => h2 e (mem_insD.2 (.inr he)), h3, fun e he f hf => h6 e (mem_insD.2 (.inr he)) f (mem_insD.2 (.inr hf))⟩, h2 d (mem_insD.2 (.inl rfl)), fun hm => ?_, anyCross_none fun e he => h6 d (mem_insD.2 (.inl rfl)) e (mem_insD.2 (.inr he))⟩
    rw [← List.take_append_drop i l, List.mem_append] at hm
    rcases hm with hm | hm
    · exact ltD_irr (h4 d hm) rfl
    · exact ltD_irr (h5 d hm) rfl
  · rintro ⟨⟨h1, h2, h3, h4⟩, h5, h6, h7⟩
    obtain ⟨h8, h9⟩ := hp.2 h3
    refine ⟨h1, fun e he => ?_, ⟨h3, h8, fun e he => ltD_tot (h9 e he) fun e' => h6 (by rw [e']; exact List.mem_of_mem_drop he)⟩, fun e he f hf => ?_⟩
    · rcases mem_insD.1 he with rfl | he
      · exact h5
      · exact h2 e he
    · rcases mem_insD.1 he with e1 | he2
      · rcases mem_insD.1 hf with f1 | hf2
        · rw [e1, f1]; exact crB_self _
        · rw [e1]; exact anyCross_mem h7 hf2
      · rcases mem_insD.1 hf with f1 | hf2
        · rw [f1, crB_comm]; exact anyCross_mem h7 he2
        · exact h4 e he2 f hf2
theorem ins_sort {n : Int} {l : List (Int × Int)} {d : Int × Int} {i : Nat} (hp : PosD l d i) (h : addB n l d = true) : insD l i d = sortD (l ++ [d]) := by
  rw [← cut_ins hp] at h
  have h3 := (cut_iff.1 h).2.2.1
  refine sortD_unique (h3.imp fun h => ltB_true h) ?_
  have := inn_perm l d i
  unfold insD
  rwa [List.append_assoc, List.singleton_append]
theorem ins_adr {n : Int} {l : List (Int × Int)} {d : Int × Int} {i : Nat} (hp : PosD l d i) (h : cutB n (insD l i d) = true) : insD l i d = addR n l d := by
  rw [cut_ins hp] at h
  rw [addR_yes h, ins_sort hp h]

/-- the free diagonals -/
def freP (n : Nat) (l : List (Int × Int)) (a b : Nat) : Bool := dB n a b && !decide (((a : Int), (b : Int)) ∈ l) && !anyCross ((a : Int), (b : Int)) l
def freL (n : Nat) (l : List (Int × Int)) : List (Int × Int) := rws (freP n l) n n
theorem freP_eq (n : Nat) (l : List (Int × Int)) (a b : Nat) : freP n l a b = freB n l ((a : Int), (b : Int)) := rfl
theorem mem_freL {n : Nat} {l : List (Int × Int)} {d : Int × Int} : d ∈ freL n l ↔ freB n l d = true := by
  unfold freL rws prs
  simp only [List.mem_flatMap, List.mem_map, List.mem_filter, List.mem_range]
  constructor
  · rintro ⟨a, _, b, ⟨_, h⟩, rfl⟩
    exact h
  · intro h
    have h1 := (dgB_iff.1 (freB_iff.1 h).1)
    obtain ⟨x, y⟩ := d
    dsimp only at h1
    obtain ⟨a, rfl⟩ := Int.eq_ofNat_of_zero_le (show 0 ≤ x by omega)
    obtain ⟨b, rfl⟩ := Int.eq_ofNat_of_zero_le (show 0 ≤ y by omega)
    exact ⟨a, by omega, b, ⟨by omega, h⟩, rfl⟩
theorem freL_filter (n : Nat) (l : List (Int × Int)) : freL n l = (rws (dB n) n n).filter (freB n l) := by
  unfold freL rws prs
  rw [List.filter_flatMap]
  congr 1
  funext a
  rw [List.filter_map, List.filter_filter]
  congr 2
  funext b
  show freP n l a b = (freB n l ((a : Int), (b : Int)) && dB n a b)
  rw [freP_eq]
  unfold freB
  show (dB n a b && _ && _) = (dB n a b && _ && _ && dB n a b)
  cases dB n a b <;> simp
end Go.Proofs.Ytlnnnjnboknoeaa
