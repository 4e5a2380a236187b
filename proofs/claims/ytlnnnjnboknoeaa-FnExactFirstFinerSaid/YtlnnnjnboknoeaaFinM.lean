/- A cut is made finer until it is a triangulation: mathematics. -/
import Derived.Test.YtlnnnjnboknoeaaFreM
namespace Go.Proofs.Ytlnnnjnboknoeaa
set_option linter.unusedVariables false

theorem pos_ex : ∀ (l : List (Int × Int)) (d : Int × Int), ∃ i, PosD l d i
  | [], d => ⟨0, Nat.le_refl _, fun _ => ⟨fun e he => by simp at he, fun e he => by simp at he⟩⟩
  | a :: r, d => by
    by_cases h : ltD a d
    · obtain ⟨i, h1, h2⟩ := pos_ex r d
      refine ⟨i + 1, by simpa using h1, fun hs => ?_⟩
      obtain ⟨h3, h4⟩ := h2 (List.pairwise_cons.1 hs).2
      refine ⟨fun e he => ?_, fun e he => h4 e (by simpa using he)⟩
      rw [List.take_succ_cons] at he
      rcases List.mem_cons.1 he with rfl | he
      · exact h
      · exact h3 e he
    · refine ⟨0, Nat.zero_le _, fun hs => ⟨fun e he => by simp at he, fun e he => ?_⟩⟩
      rw [List.drop_zero] at he
      rcases List.mem_cons.1 he with rfl | he
      · exact h
      · exact fun hl => h (ltD_tr ((List.pairwise_cons.1 hs).1 e he) hl)
theorem add_cut {n : Int} {l : List (Int × Int)} {d : Int × Int} (h : addB n l d = true) : cutB n (sortD (l ++ [d])) = true := by
  obtain ⟨i, hp⟩ := pos_ex l d
  rw [← ins_sort hp h, cut_ins hp]
  exact h
theorem mem_add {l : List (Int × Int)} {d e : Int × Int} : e ∈ sortD (l ++ [d]) ↔ e ∈ l ∨ e = d := by
  rw [(sortD_spec _).2.mem_iff, List.mem_append, List.mem_singleton]
theorem add_len {l : List (Int × Int)} {d : Int × Int} : (sortD (l ++ [d])).length = l.length + 1 := by rw [sortD_length]; simp
theorem fre_mono {n : Int} {l : List (Int × Int)} {d e : Int × Int} (h : freB n (sortD (l ++ [d])) e = true) : freB n l e = true := by
  obtain ⟨h1, h2, h3⟩ := freB_iff.1 h
  exact freB_iff.2 ⟨h1, fun hm => h2 (mem_add.2 (.inl hm)), anyCross_none fun f hf => anyCross_mem h3 (mem_add.2 (.inl hf))⟩
theorem fre_self {n : Int} {l : List (Int × Int)} {d : Int × Int} : freB n (sortD (l ++ [d])) d = false := by
  cases h : freB n (sortD (l ++ [d])) d
  · rfl
  · exact absurd (mem_add.2 (.inr rfl)) (freB_iff.1 h).2.1
/-- a step of the program -/
def finS (n : Int) (l : List (Int × Int)) (d : Int × Int) : List (Int × Int) := if addB n l d = true then sortD (l ++ [d]) else l
theorem finS_no {n : Int} {l : List (Int × Int)} {d : Int × Int} (h : addB n l d = false) : finS n l d = l := by unfold finS; rw [h]; rfl
theorem finS_yes {n : Int} {l : List (Int × Int)} {d : Int × Int} (h : addB n l d = true) : finS n l d = sortD (l ++ [d]) := by unfold finS; rw [if_pos h]
theorem finS_cut {n : Int} {l : List (Int × Int)} {d : Int × Int} (h : cutB n l = true) : cutB n (finS n l d) = true := by
  cases ha : addB n l d
  · rw [finS_no ha]; exact h
  · rw [finS_yes ha]; exact add_cut ha
def finL (n : Int) (D l : List (Int × Int)) : List (Int × Int) := D.foldl (finS n) l
theorem finL_cut {n : Int} : ∀ {D l : List (Int × Int)}, cutB n l = true → cutB n (finL n D l) = true
  | [], _, h => h
  | _ :: D, _, h => finL_cut (D := D) (finS_cut h)
theorem finL_take {n : Int} {D l : List (Int × Int)} {k : Nat} (hk : k < D.length) : finL n (D.take (k + 1)) l = finS n (finL n (D.take k) l) (D.getD k (0, 0)) := by
  rw [List.take_succ_eq_append_getElem hk, getD_at hk]
  unfold finL
  rw [List.foldl_append]
  rfl
theorem finL_skip {n : Int} {l : List (Int × Int)} : ∀ {D : List (Int × Int)}, (∀ e ∈ D, freB n l e = false) → finL n D l = l
  | [], _ => rfl
  | d :: D, h => by
    have h1 : addB n l d = false := by unfold addB; rw [h d (by simp), Bool.and_false]
    show finL n D (finS n l d) = l
    rw [finS_no h1]
    exact finL_skip fun e he => h e (List.mem_cons_of_mem _ he)
theorem finL_app {n : Int} {D E l : List (Int × Int)} : finL n (D ++ E) l = finL n E (finL n D l) := List.foldl_append
/-- the first free one may as well be added ahead of all -/
theorem finL_first {n : Int} {D l : List (Int × Int)} {d : Int × Int} {r : List (Int × Int)} (hc : cutB n l = true) (h : D.filter (freB n l) = d :: r) : addB n l d = true ∧ finL n D l = finL n D (sortD (l ++ [d])) := by
  obtain ⟨pre, post, rfl, h1, h2, _⟩ := List.filter_eq_cons_iff.1 h
  have ha : addB n l d = true := by unfold addB; rw [hc, h2]; rfl
  refine ⟨ha, ?_⟩
  have h1' : ∀ e ∈ pre, freB n l e = false := fun e he => by have := h1 e he; simpa using this
  have h3 : ∀ e ∈ pre, freB n (sortD (l ++ [d])) e = false := fun e he => by
    cases hx : freB n (sortD (l ++ [d])) e
    · rfl
    · have := fre_mono hx
      rw [h1' e he] at this
      cases this
  have h4 : addB n (sortD (l ++ [d])) d = false := by unfold addB; rw [fre_self, Bool.and_false]
  rw [finL_app, finL_app, finL_skip h1', finL_skip h3]
  show finL n post (finS n l d) = finL n post (finS n (sortD (l ++ [d])) d)
  rw [finS_yes ha, finS_no h4]
theorem cut_count {n : Nat} {l : List (Int × Int)} (h : cutB (n : Int) l = true) : 3 ≤ n ∧ n ≤ 12 ∧ ordB (n : Int) l = true ∧ ncTo l l.length = true ∧ l.length + 3 ≤ n := by
  unfold cutB at h
  rw [uncB_split, Bool.and_eq_true, Bool.and_eq_true] at h
  obtain ⟨h1, h2, h3⟩ := h
  have : 3 ≤ (n : Int) ∧ (n : Int) ≤ 12 := by unfold poB at h1; simpa using h1
  exact ⟨by omega, by omega, h2, h3, cut_sum (by omega) h2 h3⟩
/-- a triangulation has no free diagonal -/
theorem fin_full {n : Nat} {l : List (Int × Int)} (h : cutB (n : Int) l = true) (hl : l.length + 3 = n) (d : Int × Int) : freB (n : Int) l d = false := by
  cases hf : freB (n : Int) l d
  · rfl
  · have ha : addB (n : Int) l d = true := by unfold addB; rw [h, hf]; rfl
    have := (cut_count (add_cut ha)).2.2.2.2
    rw [add_len] at this
    omega
/-- a cut that is none has one -/
theorem fin_ex {n : Nat} {l : List (Int × Int)} (h : cutB (n : Int) l = true) (hl : l.length + 3 < n) : ∃ d, freB (n : Int) l d = true := by
  obtain ⟨n3, n12, ho, hn, _⟩ := cut_count h
  have hnc := nc_take ho (Nat.le_refl _) hn
  obtain ⟨Ls, h1, h2, h3⟩ := cuts_some n3 ho _ (Nat.le_refl _) hn
  rw [List.take_length] at hnc h2
  have hlen : Ls.length = l.length + 1 := by rw [h2.length_eq]; simp [basesC]
  have h5 : ∀ L : List (List Int), (∀ P ∈ L, P.length ≤ 3) → (L.map List.length).sum ≤ 3 * L.length := by
    intro L
    induction L with
    | nil => intro _; simp
    | cons a L ih =>
      intro hL
      have := ih (fun P hP => hL P (List.mem_cons_of_mem _ hP))
      have := hL a (by simp)
      simp only [List.length_cons, List.map_cons, List.sum_cons]
      omega
  obtain ⟨P, hP, hP4⟩ : ∃ P ∈ Ls, 4 ≤ P.length := Decidable.byContradiction fun hno => by
    have := h5 Ls (fun P hP => Decidable.byContradiction fun hx => hno ⟨P, hP, by omega⟩)
    omega
  obtain ⟨q, hq, rfl⟩ := List.mem_map.1 (h2.mem_iff.1 hP)
  have hs := pc_sort n l q
  generalize hPP : pc n l q = P at *
  have m0 : P[0]'(by omega) ∈ pc n l q := by rw [hPP]; exact List.getElem_mem _
  have m1 : P[1]'(by omega) ∈ pc n l q := by rw [hPP]; exact List.getElem_mem _
  have m2 : P[2]'(by omega) ∈ pc n l q := by rw [hPP]; exact List.getElem_mem _
  have m3 : P[3]'(by omega) ∈ pc n l q := by rw [hPP]; exact List.getElem_mem _
  have s1 : P[0]'(by omega) < P[1]'(by omega) := sort_at hs (by omega) (by omega)
  have s2 : P[1]'(by omega) < P[2]'(by omega) := sort_at hs (by omega) (by omega)
  have s3 : P[2]'(by omega) < P[3]'(by omega) := sort_at hs (by omega) (by omega)
  have k0 := mem_pc.1 m0
  have k1 := mem_pc.1 m1
  have k2 := mem_pc.1 m2
  have k3 := mem_pc.1 m3
  have f0 := pcF_iff.1 k0.2
  have f1 := pcF_iff.1 k1.2
  have f2 := pcF_iff.1 k2.2
  have f3 := pcF_iff.1 k3.2
  refine ⟨(P[0]'(by omega), P[2]'(by omega)), freB_iff.2 ⟨dgB_iff.2 (by dsimp only; omega), fun hm => ?_, ?_⟩⟩
  · have := f1.2 _ hm (by dsimp only; omega) (by dsimp only; omega) (by dsimp only; omega) (by dsimp only; omega)
    dsimp only at this
    omega
  · cases hx : anyCross (P[0]'(by omega), P[2]'(by omega)) l
    · rfl
    · obtain ⟨e, he, hc⟩ := anyCross_iff.1 hx
      exact absurd ⟨m0, m2⟩ (pc_crossed hnc he hc hq)
/-- the finer triangulation -/
def fiR (n : Int) (l : List (Int × Int)) : List (Int × Int) := if cutB n l = true then finL n (rws (dB n.toNat) n.toNat n.toNat) l else []
theorem fiR_no {n : Int} {l : List (Int × Int)} (h : cutB n l = false) : fiR n l = [] := by unfold fiR; rw [h]; rfl
theorem fiR_yes {n : Nat} {l : List (Int × Int)} (h : cutB (n : Int) l = true) : fiR (n : Int) l = finL (n : Int) (rws (dB n) n n) l := by unfold fiR; rw [if_pos h, Int.toNat_natCast]
/-- the model's step -/
theorem fin_step {n : Nat} {l : List (Int × Int)} (h : cutB (n : Int) l = true) (hl : l.length + 3 < n) : ∃ d r, freL n l = d :: r ∧ cutB (n : Int) (sortD (l ++ [d])) = true ∧ finL (n : Int) (rws (dB n) n n) (sortD (l ++ [d])) = finL (n : Int) (rws (dB n) n n) l := by
  obtain ⟨d, hd⟩ := fin_ex h hl
  have hm := mem_freL.2 hd
  cases hF : freL n l with
  | nil => rw [hF] at hm; cases hm
  | cons e r =>
    have h2 := hF
    rw [freL_filter] at h2
    obtain ⟨h3, h4⟩ := finL_first h h2
    exact ⟨e, r, rfl, add_cut h3, h4.symm⟩
theorem fin_end {n : Nat} {l : List (Int × Int)} (h : cutB (n : Int) l = true) (hl : ¬ l.length + 3 < n) : finL (n : Int) (rws (dB n) n n) l = l :=
  finL_skip fun e _ => fin_full h (by have := (cut_count h).2.2.2.2; omega) e
end Go.Proofs.Ytlnnnjnboknoeaa
