/- Triangulations one flip apart: plain mathematics. -/
import Derived.Test.YtbpaaoeefcebeaaSelM
namespace Go.Proofs.Ytbpaaoeefcebeaa
set_option linter.unusedVariables false

theorem perm_sub : ∀ {l r : List (Int × Int)}, l.Nodup → (∀ x ∈ l, x ∈ r) → r.length ≤ l.length → l.Perm r := by
  intro l
  induction l with
  | nil =>
    intro r _ _ h
    have : r = [] := List.eq_nil_of_length_eq_zero (by simpa using h)
    rw [this]
  | cons a t ih =>
    intro r hnd hsub hlen
    rw [List.nodup_cons] at hnd
    have ha := hsub a (by simp)
    have hp := List.perm_cons_erase ha
    have hl := hp.length_eq
    simp only [List.length_cons] at hl hlen
    refine (List.Perm.cons a (ih hnd.2 (fun x hx => ?_) (by omega))).trans hp.symm
    have hne : x ≠ a := fun e => hnd.1 (e ▸ hx)
    exact (List.mem_erase_of_ne hne).2 (hsub x (by simp [hx]))
theorem sub_length {l r : List (Int × Int)} (hnd : l.Nodup) (h : ∀ x ∈ l, x ∈ r) : l.length ≤ r.length := by
  rcases Nat.lt_or_ge r.length l.length with hlt | hge
  · have := (perm_sub hnd h (by omega)).length_eq
    omega
  · exact hge
theorem tri_sorted {n : Int} {l : List (Int × Int)} (h : Tri n l) : l.Pairwise leP := by
  refine List.Pairwise.imp ?_ h.lt
  rintro ⟨a, b⟩ ⟨c, d⟩ hab
  rw [ltB_iff] at hab
  unfold leP
  dsimp only at *
  omega

/-- a diagonal that crosses no diagonal of a triangulation but one: this or the other diagonal of its quadrilateral -/
theorem only_other {n : Int} {l : List (Int × Int)} (h : Tri n l) {d e f : Int × Int} (hm : d ∈ l) (ho : Oth n l d e) (hf : 0 ≤ f.1 ∧ f.1 + 2 ≤ f.2 ∧ f.2 < n ∧ f.2 - f.1 ≤ n - 2) (hfl : f ∉ l)
    (hc : ∀ g ∈ l, g ≠ d → crB f.1 f.2 g.1 g.2 = false) : f = e := by
  have hdg : ∀ d ∈ l, 0 ≤ d.1 ∧ d.1 + 2 ≤ d.2 := fun d hd => ⟨(h.dg d hd).1, (h.dg d hd).2.1⟩
  have hcd : crB f.1 f.2 d.1 d.2 = true := by
    cases hx : crB f.1 f.2 d.1 d.2
    · exfalso
      have hall : ∀ g ∈ l, crB f.1 f.2 g.1 g.2 = false := fun g hg => by
        by_cases e : g = d
        · rw [e]; exact hx
        · exact hc g hg e
      have hdg2 : ∀ d ∈ f :: l, 0 ≤ d.1 ∧ d.1 + 2 ≤ d.2 := fun d hd => by
        rcases List.mem_cons.1 hd with rfl | hd
        · exact ⟨hf.1, hf.2.1⟩
        · exact hdg d hd
      have hnc2 : ∀ d ∈ f :: l, ∀ e ∈ f :: l, crB d.1 d.2 e.1 e.2 = false := fun d1 hd1 e1 he1 => by
        rcases List.mem_cons.1 hd1 with h1 | h1
        · rcases List.mem_cons.1 he1 with h2 | h2
          · rw [h1, h2, crB_no]; omega
          · rw [h1]; exact hall e1 h2
        · rcases List.mem_cons.1 he1 with h2 | h2
          · have := hall d1 h1
            rw [h2]
            rw [crB_no] at this ⊢
            omega
          · exact h.nc d1 h1 e1 h2
      have hnd2 : (f :: l).Nodup := List.nodup_cons.2 ⟨hfl, h.nodup⟩
      have hn := h.n3
      have hb := cntE_le hdg2 hnc2 hnd2 0 (n - 1) (by omega)
      have e : cntE (f :: l) 0 (n - 1) = (f :: l).length := by
        unfold cntE
        rw [List.countP_eq_length]
        intro d hd
        have hdd : 0 ≤ d.1 ∧ d.1 + 2 ≤ d.2 ∧ d.2 < n ∧ d.2 - d.1 ≤ n - 2 := by
          rcases List.mem_cons.1 hd with rfl | hd
          · exact hf
          · exact h.dg d hd
        simp only [decide_eq_true_eq]
        omega
      rw [e] at hb
      have := h.len
      simp only [List.length_cons] at hb
      omega
    · rfl
  have hs := ho.sides ⟨(h.dg _ hm).1, (h.dg _ hm).2.2.1⟩
  have hd4 := h.dg _ hm
  have ho1 := ho.low
  have ho2 := ho.high
  have hJ : ∀ u v : Int, Jd n l u v → (u, v) ≠ d → 0 ≤ u → v < n → ¬(f.1 < u ∧ u < f.2 ∧ f.2 < v) ∧ ¬(u < f.1 ∧ f.1 < v ∧ v < f.2) := fun u v hj hne h0 hv => by
    rcases hj with hj | hj | hj
    · omega
    · omega
    · have := hc _ hj hne
      rw [crB_no] at this
      dsimp only at this
      omega
  obtain ⟨a, b⟩ := d
  obtain ⟨x, y⟩ := e
  obtain ⟨u, v⟩ := f
  rw [crB_iff] at hcd
  dsimp only at *
  have hp : ∀ s t : Int, ¬(s = a ∧ t = b) → (s, t) ≠ (a, b) := fun s t hst e => by injection e with e1 e2; exact hst ⟨e1, e2⟩
  rcases hs with ⟨p1, p2, p3, s1, s2, s3, s4⟩ | ⟨p1, p2, p3, s1, s2, s3, s4⟩
  · have q1 := hJ _ _ s1 (hp _ _ (by omega)) (by omega) (by omega)
    have q2 := hJ _ _ s2 (hp _ _ (by omega)) (by omega) (by omega)
    have q3 := hJ _ _ s3 (hp _ _ (by omega)) (by omega) (by omega)
    have q4 := hJ _ _ s4 (hp _ _ (by omega)) (by omega) (by omega)
    have e1 : u = x ∧ v = y := by omega
    rw [e1.1, e1.2]
  · have q1 := hJ _ _ s1 (hp _ _ (by omega)) (by omega) (by omega)
    have q2 := hJ _ _ s2 (hp _ _ (by omega)) (by omega) (by omega)
    have q3 := hJ _ _ s3 (hp _ _ (by omega)) (by omega) (by omega)
    have q4 := hJ _ _ s4 (hp _ _ (by omega)) (by omega) (by omega)
    have e1 : u = x ∧ v = y := by omega
    rw [e1.1, e1.2]

theorem filter_one {l : List (Int × Int)} (hnd : l.Nodup) {p : Int × Int → Bool} {d : Int × Int} (hd : d ∈ l) (hp : ∀ x ∈ l, p x = true ↔ x = d) : l.filter p = [d] := by
  induction l with
  | nil => cases hd
  | cons a t ih =>
    rw [List.nodup_cons] at hnd
    by_cases e : a = d
    · subst e
      rw [List.filter_cons, (hp a (by simp)).2 rfl]
      simp only [if_true]
      have : t.filter p = [] := by
        rw [List.filter_eq_nil_iff]
        intro x hx hpx
        have := (hp x (by simp [hx])).1 hpx
        exact hnd.1 (this ▸ hx)
      rw [this]
    · have hpa : p a = false := by
        cases h : p a
        · rfl
        · exact absurd ((hp a (by simp)).1 h) e
      rw [List.filter_cons, hpa]
      simp only [Bool.false_eq_true, if_false]
      refine ih hnd.2 ?_ (fun x hx => hp x (by simp [hx]))
      rcases List.mem_cons.1 hd with h | h
      · exact absurd h.symm e
      · exact h

theorem apart_from {n : Int} {a b : List (Int × Int)} (ha : Tri n a) {d : Int × Int} (hd : d ∈ a) (h : flipL n a d = b) : woL a b = [d] := by
  have ho := oth_is ha hd
  refine filter_one ha.nodup hd fun x hx => ?_
  unfold notIn
  rw [Bool.not_eq_true', decide_eq_false_iff_not, ← h, flip_mem]
  constructor
  · intro hn
    rcases Classical.em (x = d) with e | e
    · exact e
    · exact absurd (Or.inl ⟨hx, e⟩) hn
  · rintro rfl (h1 | h1)
    · exact h1.2 rfl
    · exact ho.new ha hd (h1 ▸ hd)
theorem apart_mem {a b : List (Int × Int)} {d : Int × Int} (h : woL a b = [d]) : d ∈ a ∧ d ∉ b ∧ ∀ x ∈ a, x ≠ d → x ∈ b := by
  have hd : d ∈ woL a b := by rw [h]; simp
  unfold woL notIn at hd
  rw [List.mem_filter] at hd
  refine ⟨hd.1, by simpa using hd.2, fun x hx hne => ?_⟩
  rcases Classical.em (x ∈ b) with hb | hb
  · exact hb
  · have : x ∈ woL a b := by
      unfold woL notIn
      rw [List.mem_filter]
      exact ⟨hx, by simpa using hb⟩
    rw [h] at this
    exact absurd (by simpa using this) hne
theorem apart_to {n : Int} {a b : List (Int × Int)} (ha : Tri n a) (hb : Tri n b) {d : Int × Int} (h : woL a b = [d]) : flipL n a d = b := by
  obtain ⟨hd, hdb, hrest⟩ := apart_mem h
  have ho := oth_is ha hd
  have hlen : a.length = b.length := by have := ha.len; have := hb.len; omega
  -- b has one that a has not
  obtain ⟨f, hf, hfa⟩ : ∃ f, f ∈ b ∧ f ∉ a := by
    rcases Classical.em (∃ f, f ∈ b ∧ f ∉ a) with h | h
    · exact h
    · exfalso
      have hsub : ∀ x ∈ b, x ∈ a := fun x hx => by
        rcases Classical.em (x ∈ a) with h1 | h1
        · exact h1
        · exact absurd ⟨x, hx, h1⟩ h
      have hsub2 : ∀ x ∈ d :: b, x ∈ a := fun x hx => by
        rcases List.mem_cons.1 hx with rfl | hx
        · exact hd
        · exact hsub x hx
      have := sub_length (List.nodup_cons.2 ⟨hdb, hb.nodup⟩) hsub2
      simp only [List.length_cons] at this
      omega
  have hfe : f = oth n a d := only_other ha hd ho (hb.dg f hf) hfa (fun g hg hne => hb.nc f hf g (hrest g hg hne))
  have hsub : ∀ x ∈ flipL n a d, x ∈ b := fun x hx => by
    rcases flip_mem.1 hx with ⟨h1, h2⟩ | h1
    · exact hrest x h1 h2
    · rw [h1, ← hfe]; exact hf
  have hp := perm_sub (flip_tri ha hd).nodup hsub (by rw [flip_length ha hd]; omega)
  exact List.Perm.eq_of_pairwise (fun _ _ _ _ => leP_anti) (tri_sorted (flip_tri ha hd)) (tri_sorted hb) hp


def ap1 : List (Int × Int) → Option (Int × Int)
  | [d] => some d
  | _ => none
theorem ap1_some {l : List (Int × Int)} {d : Int × Int} (h : ap1 l = some d) : l = [d] := by
  match l, h with
  | [x], h => injection h with h; rw [h]
theorem ap1_len {l : List (Int × Int)} (h : l.length ≠ 1) : ap1 l = none := by
  match l, h with
  | [], _ => rfl
  | [x], h => exact absurd rfl h
  | x :: y :: r, _ => rfl
end Go.Proofs.Ytbpaaoeefcebeaa
