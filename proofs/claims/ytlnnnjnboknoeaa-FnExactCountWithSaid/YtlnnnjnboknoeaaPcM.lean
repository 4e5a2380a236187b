/- Pieces of a cut: plain mathematics. A corner belongs to the piece above a base unless a diagonal below that base goes over it; a diagonal more parts one piece. -/
import Derived.Test.YtlnnnjnboknoeaaQuidM
import Derived.Test.YtlnnnjnboknoeaaLawSS
namespace Go.Proofs.Ytlnnnjnboknoeaa
set_option linter.unusedVariables false

/-- diagonals of a polygon, none crossing another one -/
structure Nc (n : Nat) (ds : List (Int × Int)) : Prop where
  dg : ∀ d ∈ ds, 0 ≤ d.1 ∧ d.1 + 2 ≤ d.2 ∧ d.2 < (n : Int) ∧ d.2 - d.1 ≤ (n : Int) - 2
  nc : ∀ d ∈ ds, ∀ e ∈ ds, ¬((d.1 < e.1 ∧ e.1 < d.2 ∧ d.2 < e.2) ∨ (e.1 < d.1 ∧ d.1 < e.2 ∧ e.2 < d.2))

def undB (ds : List (Int × Int)) (p : Int × Int) (c : Int) : Bool := ds.any fun e => decide (p.1 ≤ e.1 ∧ e.2 ≤ p.2 ∧ e.1 < c ∧ c < e.2 ∧ ¬(e.1 = p.1 ∧ e.2 = p.2))
def corI (n : Nat) : List Int := (List.range n).map fun (i : Nat) => (i : Int)
def pcF (ds : List (Int × Int)) (p : Int × Int) (c : Int) : Bool := decide (p.1 ≤ c ∧ c ≤ p.2) && !undB ds p c
/-- the corners of the piece above a base -/
def pc (n : Nat) (ds : List (Int × Int)) (p : Int × Int) : List Int := (corI n).filter (pcF ds p)
/-- the bases: the last side and the diagonals -/
def basesC (n : Nat) (ds : List (Int × Int)) : List (Int × Int) := (0, (n : Int) - 1) :: ds

theorem mem_corI {n : Nat} {c : Int} : c ∈ corI n ↔ 0 ≤ c ∧ c < (n : Int) := by
  unfold corI
  simp only [List.mem_map, List.mem_range]
  constructor
  · rintro ⟨i, hi, rfl⟩; omega
  · rintro ⟨h1, h2⟩; exact ⟨c.toNat, by omega, by omega⟩
theorem pcF_iff {ds : List (Int × Int)} {p : Int × Int} {c : Int} : pcF ds p c = true ↔ (p.1 ≤ c ∧ c ≤ p.2) ∧ ∀ e ∈ ds, p.1 ≤ e.1 → e.2 ≤ p.2 → e.1 < c → c < e.2 → (e.1 = p.1 ∧ e.2 = p.2) := by
  unfold pcF undB
  simp only [Bool.and_eq_true, decide_eq_true_eq, Bool.not_eq_true', List.any_eq_false]
  constructor
  · rintro ⟨h1, h2⟩
    exact ⟨h1, fun e he a b c d => Decidable.byContradiction fun hn => h2 e he ⟨a, b, c, d, hn⟩⟩
  · rintro ⟨h1, h2⟩
    exact ⟨h1, fun e he hh => hh.2.2.2.2 (h2 e he hh.1 hh.2.1 hh.2.2.1 hh.2.2.2.1)⟩
theorem mem_pc {n : Nat} {ds : List (Int × Int)} {p : Int × Int} {c : Int} : c ∈ pc n ds p ↔ (0 ≤ c ∧ c < (n : Int)) ∧ pcF ds p c = true := by
  unfold pc
  rw [List.mem_filter, mem_corI]
theorem corI_sort (n : Nat) : (corI n).Pairwise (· < ·) := by
  unfold corI
  rw [List.pairwise_map]
  exact List.pairwise_lt_range.imp fun h => by omega
theorem pc_sort (n : Nat) (ds : List (Int × Int)) (p : Int × Int) : (pc n ds p).Pairwise (· < ·) := (corI_sort n).sublist List.filter_sublist

/-- a base of a cut -/
theorem base_in {n : Nat} {ds : List (Int × Int)} (h : Nc n ds) (n3 : 3 ≤ n) {p : Int × Int} (hp : p ∈ basesC n ds) : 0 ≤ p.1 ∧ p.1 + 2 ≤ p.2 ∧ p.2 < (n : Int) := by
  rcases List.mem_cons.1 hp with rfl | hp
  · dsimp only; omega
  · have := h.dg p hp; omega
/-- two bases do not cross -/
theorem base_nc {n : Nat} {ds : List (Int × Int)} (h : Nc n ds) {p q : Int × Int} (hp : p ∈ basesC n ds) (hq : q ∈ basesC n ds) :
    ¬((p.1 < q.1 ∧ q.1 < p.2 ∧ p.2 < q.2) ∨ (q.1 < p.1 ∧ p.1 < q.2 ∧ q.2 < p.2)) := by
  rcases List.mem_cons.1 hp with rfl | hp
  · rcases List.mem_cons.1 hq with rfl | hq
    · dsimp only; omega
    · have := h.dg q hq; dsimp only; omega
  · rcases List.mem_cons.1 hq with rfl | hq
    · have := h.dg p hp; dsimp only; omega
    · exact h.nc p hp q hq

section
variable {n : Nat} {ds : List (Int × Int)} {d q : Int × Int}
/-- the part above the diagonal -/
theorem pc_inner (h : Nc n ds) (hdn : d ∉ basesC n ds) (hq : q ∈ basesC n ds) (h1 : d.1 ∈ pc n ds q) (h2 : d.2 ∈ pc n ds q) :
    pc n (ds ++ [d]) d = (pc n ds q).filter fun c => decide (d.1 ≤ c ∧ c ≤ d.2) := by
  unfold pc
  rw [List.filter_filter]
  refine List.filter_congr fun c hc => bool_ext ?_
  rw [mem_pc, pcF_iff] at h1 h2
  have hdq : ¬(d.1 = q.1 ∧ d.2 = q.2) := fun e => hdn (by rw [show d = q from Prod.ext e.1 e.2]; exact hq)
  rw [Bool.and_eq_true, pcF_iff, pcF_iff, decide_eq_true_eq]
  constructor
  · rintro ⟨ha, hb⟩
    refine ⟨ha, by omega, fun e he e1 e2 e3 e4 => Decidable.byContradiction fun hne => ?_⟩
    have k1 := h1.2.2 e he e1 e2
    have k2 := h2.2.2 e he e1 e2
    have := hb e (by simp [he]) (by omega) (by omega) e3 e4
    exact hdn (by rw [show d = e from Prod.ext this.1.symm this.2.symm]; exact List.mem_cons_of_mem _ he)
  · rintro ⟨ha, hb1, hb2⟩
    refine ⟨ha, fun e he e1 e2 e3 e4 => ?_⟩
    rcases List.mem_append.1 he with he | he
    · have := hb2 e he (by omega) (by omega) e3 e4
      omega
    · rw [List.mem_singleton.1 he]; exact ⟨rfl, rfl⟩
/-- the part below it -/
theorem pc_outer (hdn : d ∉ basesC n ds) (hq : q ∈ basesC n ds) (h1 : d.1 ∈ pc n ds q) (h2 : d.2 ∈ pc n ds q) :
    pc n (ds ++ [d]) q = (pc n ds q).filter fun c => decide (c ≤ d.1 ∨ d.2 ≤ c) := by
  unfold pc
  rw [List.filter_filter]
  refine List.filter_congr fun c hc => bool_ext ?_
  rw [mem_pc, pcF_iff] at h1 h2
  have hdq : ¬(d.1 = q.1 ∧ d.2 = q.2) := fun e => hdn (by rw [show d = q from Prod.ext e.1 e.2]; exact hq)
  rw [Bool.and_eq_true, pcF_iff, pcF_iff, decide_eq_true_eq]
  constructor
  · rintro ⟨ha, hb⟩
    refine ⟨?_, ha, fun e he => hb e (by simp [he])⟩
    have := hb d (by simp)
    omega
  · rintro ⟨ha, hb1, hb2⟩
    refine ⟨hb1, fun e he e1 e2 e3 e4 => ?_⟩
    rcases List.mem_append.1 he with he | he
    · exact hb2 e he e1 e2 e3 e4
    · rw [List.mem_singleton.1 he] at e3 e4
      omega
/-- every other piece stays -/
theorem pc_other (h : Nc n ds) (hlt : d.1 < d.2) (hdn : d ∉ basesC n ds) (hq : q ∈ basesC n ds) (h1 : d.1 ∈ pc n ds q) (h2 : d.2 ∈ pc n ds q) {p : Int × Int} (hp : p ∈ basesC n ds) (hpq : p ≠ q) :
    pc n (ds ++ [d]) p = pc n ds p := by
  unfold pc
  refine List.filter_congr fun c hc => bool_ext ?_
  rw [mem_pc, pcF_iff] at h1 h2
  rw [pcF_iff, pcF_iff]
  constructor
  · rintro ⟨ha, hb⟩
    exact ⟨ha, fun e he => hb e (by simp [he])⟩
  · rintro ⟨ha, hb⟩
    refine ⟨ha, fun e he e1 e2 e3 e4 => ?_⟩
    rcases List.mem_append.1 he with he | he
    · exact hb e he e1 e2 e3 e4
    · rw [List.mem_singleton.1 he] at e1 e2 e3 e4 ⊢
      exfalso
      have hn := base_nc h hp hq
      have hne : ¬(p.1 = q.1 ∧ p.2 = q.2) := fun e => hpq (Prod.ext e.1 e.2)
      have hdp : ¬(d.1 = p.1 ∧ d.2 = p.2) := fun e => hdn (by rw [show d = p from Prod.ext e.1 e.2]; exact hp)
      by_cases hin : p.1 ≤ q.1 ∧ q.2 ≤ p.2
      · rcases List.mem_cons.1 hq with rfl | hq'
        · have := hc
          rw [mem_corI] at this
          rcases List.mem_cons.1 hp with rfl | hp'
          · exact hne ⟨rfl, rfl⟩
          · have := h.dg p hp'
            dsimp only at hin
            omega
        · have := hb q hq' hin.1 hin.2 (by omega) (by omega)
          omega
      · rcases List.mem_cons.1 hp with rfl | hp'
        · rcases List.mem_cons.1 hq with rfl | hq'
          · exact hne ⟨rfl, rfl⟩
          · have := h.dg q hq'
            dsimp only at hin
            omega
        · have k1 := h1.2.2 p hp'
          have k2 := h2.2.2 p hp'
          omega
/-- a diagonal that crosses one has no piece with both its corners -/
theorem pc_crossed (h : Nc n ds) {e : Int × Int} (he : e ∈ ds) (hc : (d.1 < e.1 ∧ e.1 < d.2 ∧ d.2 < e.2) ∨ (e.1 < d.1 ∧ d.1 < e.2 ∧ e.2 < d.2)) (hq : q ∈ basesC n ds) : ¬(d.1 ∈ pc n ds q ∧ d.2 ∈ pc n ds q) := by
  rintro ⟨h1, h2⟩
  rw [mem_pc, pcF_iff] at h1 h2
  have k1 := h1.2.2 e he
  have k2 := h2.2.2 e he
  have hn := base_nc h (List.mem_cons_of_mem _ he) hq
  have := h.dg e he
  by_cases hin : q.1 ≤ e.1 ∧ e.2 ≤ q.2
  · omega
  · rcases List.mem_cons.1 hq with rfl | hq'
    · dsimp only at hin
      omega
    · omega
/-- one that crosses none has one -/
theorem pc_free (h : Nc n ds) (hd : 0 ≤ d.1 ∧ d.1 < d.2 ∧ d.2 < (n : Int)) (hc : ∀ e ∈ ds, ¬((d.1 < e.1 ∧ e.1 < d.2 ∧ d.2 < e.2) ∨ (e.1 < d.1 ∧ d.1 < e.2 ∧ e.2 < d.2))) :
    ∃ q ∈ basesC n ds, d.1 ∈ pc n ds q ∧ d.2 ∈ pc n ds q := by
  have key : ∀ (m : Nat) (q : Int × Int), q ∈ basesC n ds → q.1 ≤ d.1 → d.2 ≤ q.2 → (q.2 - q.1).toNat ≤ m → ∃ q ∈ basesC n ds, d.1 ∈ pc n ds q ∧ d.2 ∈ pc n ds q := by
    intro m
    induction m with
    | zero => intro q _ a b c; omega
    | succ m ih =>
      intro q hq a b hm
      by_cases hex : ∃ e ∈ ds, q.1 ≤ e.1 ∧ e.2 ≤ q.2 ∧ ¬(e.1 = q.1 ∧ e.2 = q.2) ∧ e.1 ≤ d.1 ∧ d.2 ≤ e.2
      · obtain ⟨e, he, e1, e2, e3, e4, e5⟩ := hex
        exact ih e (List.mem_cons_of_mem _ he) e4 e5 (by omega)
      · refine ⟨q, hq, ?_, ?_⟩
        · rw [mem_pc, pcF_iff]
          refine ⟨by omega, by omega, fun e he e1 e2 e3 e4 => Decidable.byContradiction fun hne => hex ⟨e, he, e1, e2, hne, ?_⟩⟩
          have := hc e he
          omega
        · rw [mem_pc, pcF_iff]
          refine ⟨by omega, by omega, fun e he e1 e2 e3 e4 => Decidable.byContradiction fun hne => hex ⟨e, he, e1, e2, hne, ?_⟩⟩
          have := hc e he
          omega
  exact key _ (0, (n : Int) - 1) (by simp [basesC]) hd.1 (by dsimp only; omega) (Nat.le_refl _)
end

/-- joined: a side or a diagonal -/
def joB (n : Nat) (ds : List (Int × Int)) (a b : Int) : Bool := decide (b = a + 1) || decide (a = 0 ∧ b = (n : Int) - 1) || ds.any fun e => decide (e.1 = a ∧ e.2 = b)
theorem joB_iff {n : Nat} {ds : List (Int × Int)} {a b : Int} : joB n ds a b = true ↔ b = a + 1 ∨ (a = 0 ∧ b = (n : Int) - 1) ∨ (a, b) ∈ ds := by
  unfold joB
  simp only [Bool.or_eq_true, decide_eq_true_eq, List.any_eq_true, or_assoc]
  constructor
  · rintro (h | h | ⟨e, he, h1, h2⟩)
    · exact .inl h
    · exact .inr (.inl h)
    · exact .inr (.inr (by rw [← h1, ← h2]; exact he))
  · rintro (h | h | h)
    · exact .inl h
    · exact .inr (.inl h)
    · exact .inr (.inr ⟨_, h, rfl, rfl⟩)

section
variable {n : Nat} {ds : List (Int × Int)} {p : Int × Int} {at_ nx : Int}
/-- the farthest one joined with a corner of a piece is the piece's next corner -/
theorem pc_step (h : Nc n ds) (hp : p ∈ basesC n ds) (n3 : 3 ≤ n) (ha : at_ ∈ pc n ds p) (h1 : at_ < nx) (h2 : nx ≤ p.2) (hj : joB n ds at_ nx = true) (hne : ¬(at_ = p.1 ∧ nx = p.2))
    (hmax : ∀ c, nx < c → c ≤ p.2 → joB n ds at_ c = true → at_ = p.1 ∧ c = p.2) : nx ∈ pc n ds p ∧ ∀ c, at_ < c → c < nx → c ∉ pc n ds p := by
  have hb := base_in h n3 hp
  rw [mem_pc, pcF_iff] at ha
  constructor
  · rw [mem_pc, pcF_iff]
    refine ⟨by omega, by omega, fun e he e1 e2 e3 e4 => Decidable.byContradiction fun hn => ?_⟩
    have k := ha.2.2 e he e1 e2
    have hm := hmax e.2 e4 e2
    have hjo : e.1 = at_ → joB n ds at_ e.2 = true := fun e0 => joB_iff.2 (.inr (.inr (by rw [← e0]; exact he)))
    rcases joB_iff.1 hj with hj | hj | hj
    · by_cases e0 : e.1 = at_
      · have := hm (hjo e0); omega
      · omega
    · omega
    · have := h.nc _ hj e he
      dsimp only at this
      by_cases e0 : e.1 = at_
      · have := hm (hjo e0); omega
      · omega
  · intro c c1 c2 hc
    rw [mem_pc, pcF_iff] at hc
    rcases joB_iff.1 hj with hj | hj | hj
    · omega
    · omega
    · have := hc.2.2 _ hj (by dsimp only; omega) (by dsimp only; omega) (by dsimp only; omega) (by dsimp only; omega)
      dsimp only at this
      omega
theorem pc_first (h : Nc n ds) (hp : p ∈ basesC n ds) (n3 : 3 ≤ n) : p.1 ∈ pc n ds p ∧ p.2 ∈ pc n ds p := by
  have hb := base_in h n3 hp
  rw [mem_pc, mem_pc, pcF_iff, pcF_iff]
  exact ⟨⟨by omega, by omega, fun e he => by omega⟩, ⟨by omega, by omega, fun e he => by omega⟩⟩
/-- there is a farthest one -/
theorem far_ex (n3 : 3 ≤ n) (h : Nc n ds) (hp : p ∈ basesC n ds) (hlt : at_ < p.2) (hge : p.1 ≤ at_) :
    ∃ nx, at_ < nx ∧ nx ≤ p.2 ∧ joB n ds at_ nx = true ∧ ¬(at_ = p.1 ∧ nx = p.2) ∧ ∀ c, nx < c → c ≤ p.2 → joB n ds at_ c = true → at_ = p.1 ∧ c = p.2 := by
  have hb := base_in h n3 hp
  have key : ∀ m : Nat, ∀ k : Int, at_ < k → k ≤ p.2 → joB n ds at_ k = true → ¬(at_ = p.1 ∧ k = p.2) → (p.2 - k).toNat ≤ m →
      ∃ nx, at_ < nx ∧ nx ≤ p.2 ∧ joB n ds at_ nx = true ∧ ¬(at_ = p.1 ∧ nx = p.2) ∧ ∀ c, nx < c → c ≤ p.2 → joB n ds at_ c = true → at_ = p.1 ∧ c = p.2 := by
    intro m
    induction m with
    | zero => intro k a b c d e; exact ⟨k, a, b, c, d, fun c' h1 h2 => by omega⟩
    | succ m ih =>
      intro k a b c d e
      by_cases hex : ∃ c', k < c' ∧ c' ≤ p.2 ∧ joB n ds at_ c' = true ∧ ¬(at_ = p.1 ∧ c' = p.2)
      · obtain ⟨c', h1, h2, h3, h4⟩ := hex
        exact ih c' (by omega) h2 h3 h4 (by omega)
      · exact ⟨k, a, b, c, d, fun c' h1 h2 h3 => Decidable.byContradiction fun h4 => hex ⟨c', h1, h2, h3, h4⟩⟩
  exact key _ (at_ + 1) (by omega) (by omega) (joB_iff.2 (.inl rfl)) (by omega) (Nat.le_refl _)
/-- a piece has a corner between its base's ends -/
theorem pc_between (h : Nc n ds) (hp : p ∈ basesC n ds) (n3 : 3 ≤ n) : ∃ c, c ∈ pc n ds p ∧ p.1 < c ∧ c < p.2 := by
  have hb := base_in h n3 hp
  obtain ⟨nx, a, b, c, d, e⟩ := far_ex (at_ := p.1) n3 h hp (by omega) (Int.le_refl _)
  exact ⟨nx, (pc_step h hp n3 (pc_first h hp n3).1 a b c d e).1, a, by omega⟩
end


/- lists: strictly rising lists of numbers, cut at two of them -/
section
variable {P : List Int}
theorem sort_at (hs : P.Pairwise (· < ·)) {i j : Nat} (hj : j < P.length) (h : i < j) : P[i]'(by omega) < P[j] := List.pairwise_iff_getElem.1 hs i j (by omega) hj h
theorem sort_le (hs : P.Pairwise (· < ·)) {i j : Nat} (hj : j < P.length) (h : i ≤ j) : P[i]'(by omega) ≤ P[j] := by
  rcases Nat.lt_or_eq_of_le h with h | rfl
  · have := sort_at hs hj h; omega
  · exact Int.le_refl _
theorem sort_of {i j : Nat} (hs : P.Pairwise (· < ·)) (hi : i < P.length) (hj : j < P.length) (h : P[i] < P[j]) : i < j := by
  rcases Nat.lt_or_ge i j with h2 | h2
  · exact h2
  · have := sort_le hs hi h2; omega
theorem sorted_len3 (hs : P.Pairwise (· < ·)) {a b c : Int} (ha : a ∈ P) (hb : b ∈ P) (hc : c ∈ P) (h1 : a < b) (h2 : b < c) : 3 ≤ P.length := by
  obtain ⟨i, hi, rfl⟩ := List.getElem_of_mem ha
  obtain ⟨j, hj, rfl⟩ := List.getElem_of_mem hb
  obtain ⟨k, hk, rfl⟩ := List.getElem_of_mem hc
  have := sort_of hs hi hj h1
  have := sort_of hs hj hk h2
  omega
def innP (P : List Int) (d : Int × Int) : List Int := P.filter fun c => decide (d.1 ≤ c ∧ c ≤ d.2)
def outP (P : List Int) (d : Int × Int) : List Int := P.filter fun c => decide (c ≤ d.1 ∨ d.2 ≤ c)
theorem take_le (hs : P.Pairwise (· < ·)) {i : Nat} (hi : i < P.length) : ∀ x ∈ P.take i, x < P[i] := fun x hx => by
  obtain ⟨k, hk, rfl⟩ := List.mem_take_iff_getElem.1 hx
  exact sort_at hs hi (by omega)
theorem drop_le (hs : P.Pairwise (· < ·)) {i : Nat} (hi : i < P.length) : ∀ x ∈ P.drop i, P[i] ≤ x := fun x hx => by
  obtain ⟨k, hk, rfl⟩ := List.mem_drop_iff_getElem.1 hx
  have h2 : i + k < P.length := by omega
  exact sort_le hs h2 (Nat.le_add_right i k)
theorem inn_eq (hs : P.Pairwise (· < ·)) {d : Int × Int} {i j : Nat} (hi : i < P.length) (hj : j < P.length) (h1 : P[i] = d.1) (h2 : P[j] = d.2) (hij : i < j) : innP P d = (P.drop i).take (j + 1 - i) := by
  have e : P = P.take i ++ ((P.drop i).take (j + 1 - i) ++ P.drop (j + 1)) := by
    conv => lhs; rw [← List.take_append_drop i P]
    congr 1
    conv => lhs; rw [← List.take_append_drop (j + 1 - i) (P.drop i)]
    rw [List.drop_drop, show i + (j + 1 - i) = j + 1 by omega]
  unfold innP
  conv => lhs; rw [e]
  rw [List.filter_append, List.filter_append]
  have a1 : (P.take i).filter (fun c => decide (d.1 ≤ c ∧ c ≤ d.2)) = [] := by
    rw [List.filter_eq_nil_iff]
    intro x hx
    have := take_le hs hi x hx
    simp; omega
  have a2 : ((P.drop i).take (j + 1 - i)).filter (fun c => decide (d.1 ≤ c ∧ c ≤ d.2)) = (P.drop i).take (j + 1 - i) := by
    rw [List.filter_eq_self]
    intro x hx
    obtain ⟨k, hk, rfl⟩ := List.mem_take_iff_getElem.1 hx
    rw [List.getElem_drop]
    have := sort_le hs (i := i) (j := i + k) (by simp at hk; omega) (by omega)
    have := sort_le hs (i := i + k) (j := j) hj (by omega)
    simp; omega
  have a3 : (P.drop (j + 1)).filter (fun c => decide (d.1 ≤ c ∧ c ≤ d.2)) = [] := by
    rw [List.filter_eq_nil_iff]
    intro x hx
    obtain ⟨k, hk, rfl⟩ := List.mem_drop_iff_getElem.1 hx
    have hk2 : k + (j + 1) < P.length := hk
    have := sort_at hs (i := j) (j := j + 1 + k) (by omega) (by omega)
    simp; omega
  rw [a1, a2, a3, List.nil_append, List.append_nil]
theorem out_eq (hs : P.Pairwise (· < ·)) {d : Int × Int} {i j : Nat} (hi : i < P.length) (hj : j < P.length) (h1 : P[i] = d.1) (h2 : P[j] = d.2) (hij : i < j) : outP P d = P.take (i + 1) ++ P.drop j := by
  have e : P = P.take (i + 1) ++ ((P.drop (i + 1)).take (j - (i + 1)) ++ P.drop j) := by
    conv => lhs; rw [← List.take_append_drop (i + 1) P]
    congr 1
    conv => lhs; rw [← List.take_append_drop (j - (i + 1)) (P.drop (i + 1))]
    rw [List.drop_drop, show (i + 1) + (j - (i + 1)) = j by omega]
  unfold outP
  conv => lhs; rw [e]
  rw [List.filter_append, List.filter_append]
  have a1 : (P.take (i + 1)).filter (fun c => decide (c ≤ d.1 ∨ d.2 ≤ c)) = P.take (i + 1) := by
    rw [List.filter_eq_self]
    intro x hx
    obtain ⟨k, hk, rfl⟩ := List.mem_take_iff_getElem.1 hx
    have := sort_le hs (i := k) (j := i) hi (by omega)
    simp; omega
  have a2 : ((P.drop (i + 1)).take (j - (i + 1))).filter (fun c => decide (c ≤ d.1 ∨ d.2 ≤ c)) = [] := by
    rw [List.filter_eq_nil_iff]
    intro x hx
    obtain ⟨k, hk, rfl⟩ := List.mem_take_iff_getElem.1 hx
    rw [List.getElem_drop]
    have hk2 : k < j - (i + 1) := by omega
    have := sort_at hs (i := i) (j := i + 1 + k) (by omega) (by omega)
    have := sort_at hs (i := i + 1 + k) (j := j) hj (by omega)
    simp; omega
  have a3 : (P.drop j).filter (fun c => decide (c ≤ d.1 ∨ d.2 ≤ c)) = P.drop j := by
    rw [List.filter_eq_self]
    intro x hx
    have := drop_le hs hj x hx
    simp; omega
  rw [a1, a2, a3, List.nil_append]
theorem cut_len (hs : P.Pairwise (· < ·)) {d : Int × Int} (h1 : d.1 ∈ P) (h2 : d.2 ∈ P) (hlt : d.1 < d.2) : (innP P d).length + (outP P d).length = P.length + 2 := by
  obtain ⟨i, hi, e1⟩ := List.getElem_of_mem h1
  obtain ⟨j, hj, e2⟩ := List.getElem_of_mem h2
  have hij := sort_of hs hi hj (by omega)
  rw [inn_eq hs hi hj e1 e2 hij, out_eq hs hi hj e1 e2 hij]
  simp
  omega
end

/-- one cut: the first piece with both corners is parted -/
def hasB (d : Int × Int) (P : List Int) : Bool := P.contains d.1 && P.contains d.2
def cutS (Ls : List (List Int)) (d : Int × Int) : Option (List (List Int)) :=
  match Ls.findIdx? (hasB d) with
  | none => none
  | some i => some (Ls.set i (innP (rowOf Ls i) d) ++ [outP (rowOf Ls i) d])
theorem hasB_iff {d : Int × Int} {P : List Int} : hasB d P = true ↔ d.1 ∈ P ∧ d.2 ∈ P := by unfold hasB; simp

theorem bases_snoc (n : Nat) (ds : List (Int × Int)) (d : Int × Int) : basesC n (ds ++ [d]) = basesC n ds ++ [d] := rfl
theorem cutS_some {n : Nat} {ds : List (Int × Int)} {d : Int × Int} {Ls : List (List Int)} (h : Nc n ds) (n3 : 3 ≤ n) (hnd : (basesC n ds).Nodup) (hd : 0 ≤ d.1 ∧ d.1 < d.2 ∧ d.2 < (n : Int)) (hdn : d ∉ basesC n ds)
    (hc : ∀ e ∈ ds, ¬((d.1 < e.1 ∧ e.1 < d.2 ∧ d.2 < e.2) ∨ (e.1 < d.1 ∧ d.1 < e.2 ∧ e.2 < d.2))) (hp : Ls.Perm ((basesC n ds).map (pc n ds))) :
    ∃ Ls', cutS Ls d = some Ls' ∧ Ls'.Perm ((basesC n (ds ++ [d])).map (pc n (ds ++ [d]))) ∧ ((Ls'.map List.length).sum = (Ls.map List.length).sum + 2) := by
  obtain ⟨q0, hq0, ha, hb⟩ := pc_free h hd hc
  have hmem : pc n ds q0 ∈ Ls := hp.mem_iff.2 (List.mem_map_of_mem hq0)
  cases hf : Ls.findIdx? (hasB d) with
  | none =>
    have := List.findIdx?_eq_none_iff.1 hf _ hmem
    rw [hasB_iff.2 ⟨ha, hb⟩] at this
    cases this
  | some i =>
    obtain ⟨hi, hP, _⟩ := List.findIdx?_eq_some_iff_getElem.1 hf
    have hPL : Ls[i] ∈ Ls := List.getElem_mem hi
    obtain ⟨q, hq, eq⟩ := List.mem_map.1 (hp.mem_iff.1 hPL)
    rw [hasB_iff, ← eq] at hP
    obtain ⟨h1, h2⟩ := hP
    have er : rowOf Ls i = pc n ds q := by unfold rowOf; simp [hi, eq]
    have hin : innP (pc n ds q) d = pc n (ds ++ [d]) d := (pc_inner h hdn hq h1 h2).symm
    have hou : outP (pc n ds q) d = pc n (ds ++ [d]) q := (pc_outer hdn hq h1 h2).symm
    have hlen := cut_len (pc_sort n ds q) h1 h2 hd.2.1
    refine ⟨_, by unfold cutS; rw [hf], ?_, ?_⟩
    · rw [er, hin, hou, bases_snoc]
      obtain ⟨B1, B2, eB⟩ := List.append_of_mem hq
      rw [eB] at hp hnd ⊢
      have hn1 : q ∉ B1 ∧ q ∉ B2 := by
        rw [List.nodup_append] at hnd
        refine ⟨fun hm => hnd.2.2 q hm q (by simp) rfl, ?_⟩
        exact (List.nodup_cons.1 hnd.2.1).1
      have hoth : ∀ B : List (Int × Int), q ∉ B → (∀ p ∈ B, p ∈ basesC n ds) → B.map (pc n (ds ++ [d])) = B.map (pc n ds) := fun B hqB hB =>
        List.map_congr_left fun p hp => pc_other h hd.2.1 hdn hq h1 h2 (hB p hp) (fun e => hqB (e ▸ hp))
      have o1 := hoth B1 hn1.1 (fun p hp => by rw [eB]; simp [hp])
      have o2 := hoth B2 hn1.2 (fun p hp => by rw [eB]; simp [hp])
      rw [List.set_eq_take_append_cons_drop, if_pos hi, List.map_append, List.map_append, List.map_cons, o1, o2]
      have hsplit : Ls = Ls.take i ++ Ls[i] :: Ls.drop (i + 1) := by rw [← List.drop_eq_getElem_cons hi, List.take_append_drop]
      have hp2 : (Ls[i] :: (Ls.take i ++ Ls.drop (i + 1))).Perm (pc n ds q :: (B1.map (pc n ds) ++ B2.map (pc n ds))) := by
        refine (List.perm_middle.symm.trans ?_).trans List.perm_middle
        rw [← hsplit]
        simpa using hp
      rw [← eq] at hp2
      have hp3 := hp2.cons_inv
      simp only [List.map_cons, List.map_nil]
      refine (List.perm_append_comm).trans ?_
      refine List.Perm.trans ?_ (List.perm_append_comm)
      simp only [List.cons_append, List.nil_append]
      refine List.Perm.trans ?_ (List.Perm.cons _ (List.perm_middle.symm))
      refine List.Perm.trans (List.Perm.cons _ List.perm_middle) ?_
      exact (List.Perm.swap _ _ _).trans ((hp3.cons _).cons _)
    · rw [er, List.map_append, List.sum_append, List.set_eq_take_append_cons_drop, if_pos hi]
      have hsplit : Ls = Ls.take i ++ pc n ds q :: Ls.drop (i + 1) := by rw [eq, ← List.drop_eq_getElem_cons hi, List.take_append_drop]
      conv => rhs; rw [hsplit]
      simp only [List.map_append, List.map_cons, List.map_nil, List.sum_append, List.sum_cons, List.sum_nil]
      omega
theorem cutS_none {n : Nat} {ds : List (Int × Int)} {d : Int × Int} {Ls : List (List Int)} (h : Nc n ds) {e : Int × Int} (he : e ∈ ds) (hc : (d.1 < e.1 ∧ e.1 < d.2 ∧ d.2 < e.2) ∨ (e.1 < d.1 ∧ d.1 < e.2 ∧ e.2 < d.2))
    (hp : Ls.Perm ((basesC n ds).map (pc n ds))) : cutS Ls d = none := by
  unfold cutS
  rw [List.findIdx?_eq_none_iff.2 ?_]
  intro P hP
  obtain ⟨q, hq, rfl⟩ := List.mem_map.1 (hp.mem_iff.1 hP)
  have := pc_crossed h he hc hq
  cases hb : hasB d (pc n ds q)
  · rfl
  · exact absurd (hasB_iff.1 hb) this

/-- a cut -/
def cutB (n : Int) (ds : List (Int × Int)) : Bool := poB n && uncB n ds

theorem ord_at {n : Int} {ds : List (Int × Int)} (h : ordB n ds = true) {i : Nat} (hi : i < ds.length) : dgB n ds[i].1 ds[i].2 = true ∧ (0 < i → ltB (ds[i - 1]'(by omega)).1 (ds[i - 1]'(by omega)).2 ds[i].1 ds[i].2 = true) := by
  unfold ordB ordTo at h
  have := List.all_eq_true.1 h i (by simpa using hi)
  unfold ordAt at this
  rw [Bool.and_eq_true, Bool.or_eq_true, decide_eq_true_eq] at this
  have e1 : ds.getD i (0, 0) = ds[i] := by simp [hi]
  rw [e1] at this
  refine ⟨this.1, fun h0 => ?_⟩
  rcases this.2 with h2 | h2
  · omega
  · have e2 : ds.getD (i - 1) (0, 0) = ds[i - 1]'(by omega) := by simp [show i - 1 < ds.length by omega]
    rwa [e2] at h2
theorem ltB_tr {a b c d e f : Int} (h1 : ltB a b c d = true) (h2 : ltB c d e f = true) : ltB a b e f = true := by
  unfold ltB at *
  simp only [decide_eq_true_eq] at *
  omega
theorem ord_lt {n : Int} {ds : List (Int × Int)} (h : ordB n ds = true) {j : Nat} : ∀ i : Nat, (hi : i < ds.length) → (hj : j < i) → ltB (ds[j]'(by omega)).1 (ds[j]'(by omega)).2 ds[i].1 ds[i].2 = true := by
  intro i
  induction i with
  | zero => intro _ h; omega
  | succ i ih =>
    intro hi hj
    have h1 := (ord_at h hi).2 (by omega)
    simp only [Nat.add_sub_cancel] at h1
    by_cases e : j = i
    · subst e; exact h1
    · exact ltB_tr (ih (by omega) (by omega)) h1
theorem nc_take {n : Nat} {ds : List (Int × Int)} (h : ordB (n : Int) ds = true) {k : Nat} (hk : k ≤ ds.length) (hn : ncTo ds k = true) : Nc n (ds.take k) := by
  refine ⟨fun d hd => ?_, fun d hd e he => ?_⟩
  · obtain ⟨i, hi, rfl⟩ := List.mem_take_iff_getElem.1 hd
    have := (ord_at h (i := i) (by omega)).1
    rw [dgB_iff] at this
    omega
  · have key : ∀ i j : Nat, (hj : j < k) → (hij : i < j) → crB (ds[j]'(by omega)).1 (ds[j]'(by omega)).2 (ds[i]'(by omega)).1 (ds[i]'(by omega)).2 = false := fun i j hj hij => by
      have := List.all_eq_true.1 hn j (by simpa using hj)
      simp only [Bool.not_eq_true'] at this
      unfold anyCross at this
      rw [List.any_eq_false] at this
      have := this (ds[i]'(by omega)) (List.mem_take_iff_getElem.2 ⟨i, by omega, rfl⟩)
      have e1 : ds.getD j (0, 0) = ds[j]'(by omega) := by simp [show j < ds.length by omega]
      rw [e1] at this
      simpa using this
    obtain ⟨i, hi, rfl⟩ := List.mem_take_iff_getElem.1 hd
    obtain ⟨j, hj, rfl⟩ := List.mem_take_iff_getElem.1 he
    rcases Nat.lt_trichotomy i j with hij | rfl | hij
    · have := key i j (by omega) hij
      unfold crB at this
      simp only [decide_eq_false_iff_not] at this
      omega
    · omega
    · have := key j i (by omega) hij
      unfold crB at this
      simp only [decide_eq_false_iff_not] at this
      omega
theorem new_base {n : Nat} {ds : List (Int × Int)} (h : ordB (n : Int) ds = true) {k : Nat} (hk : k < ds.length) : ds[k] ∉ basesC n (ds.take k) := by
  have hd := (ord_at h hk).1
  rw [dgB_iff] at hd
  intro hm
  rcases List.mem_cons.1 hm with e | hm
  · rw [e] at hd; dsimp only at hd; omega
  · obtain ⟨i, hi, e⟩ := List.mem_take_iff_getElem.1 hm
    have := ord_lt h (j := i) k hk (by omega)
    rw [e] at this
    unfold ltB at this
    simp at this
theorem take_snocP {α : Type} {ds : List α} {k : Nat} (hk : k < ds.length) : ds.take (k + 1) = ds.take k ++ [ds[k]] := List.take_succ_eq_append_getElem hk
theorem bases_nodup {n : Nat} {ds : List (Int × Int)} (h : ordB (n : Int) ds = true) : ∀ k, k ≤ ds.length → (basesC n (ds.take k)).Nodup := by
  intro k
  induction k with
  | zero => intro _; simp [basesC]
  | succ k ih =>
    intro hk
    rw [take_snocP (by omega), bases_snoc, List.nodup_append]
    refine ⟨ih (by omega), by simp, fun a ha b hb e => ?_⟩
    rw [List.mem_singleton] at hb
    subst hb
    exact new_base h (by omega) (e ▸ ha)

/-- all cuts, one after the other -/
def cuts (n : Nat) (ds : List (Int × Int)) : Option (List (List Int)) := ds.foldl (fun o d => o.bind fun Ls => cutS Ls d) (some [corI n])
theorem cuts_snoc (n : Nat) (ds : List (Int × Int)) (d : Int × Int) : cuts n (ds ++ [d]) = (cuts n ds).bind fun Ls => cutS Ls d := by unfold cuts; simp
theorem cuts_none_more {n : Nat} {ds : List (Int × Int)} (h : cuts n ds = none) (es : List (Int × Int)) : cuts n (ds ++ es) = none := by
  induction es generalizing ds with
  | nil => simpa using h
  | cons e es ih =>
    have : cuts n (ds ++ [e]) = none := by rw [cuts_snoc, h]; rfl
    have := ih this
    simpa using this
theorem pc_all (n : Nat) (n3 : 3 ≤ n) : pc n [] (0, (n : Int) - 1) = corI n := by
  unfold pc
  rw [List.filter_eq_self]
  intro c hc
  rw [mem_corI] at hc
  rw [pcF_iff]
  exact ⟨⟨hc.1, by dsimp only; omega⟩, fun e he => by simp at he⟩
theorem anyCross_iff {d : Int × Int} {l : List (Int × Int)} : anyCross d l = true ↔ ∃ e ∈ l, (d.1 < e.1 ∧ e.1 < d.2 ∧ d.2 < e.2) ∨ (e.1 < d.1 ∧ d.1 < e.2 ∧ e.2 < d.2) := by
  unfold anyCross crB
  rw [List.any_eq_true]
  simp only [decide_eq_true_eq]
theorem cuts_some {n : Nat} {ds : List (Int × Int)} (n3 : 3 ≤ n) (h : ordB (n : Int) ds = true) : ∀ k, k ≤ ds.length → ncTo ds k = true →
    ∃ Ls, cuts n (ds.take k) = some Ls ∧ Ls.Perm ((basesC n (ds.take k)).map (pc n (ds.take k))) ∧ (Ls.map List.length).sum = n + 2 * k := by
  intro k
  induction k with
  | zero =>
    intro _ _
    refine ⟨[corI n], rfl, ?_, ?_⟩
    · rw [List.take_zero]
      unfold basesC
      rw [List.map_cons, pc_all n n3]
      exact List.Perm.refl _
    · simp [corI]
  | succ k ih =>
    intro hk hn
    rw [ncTo_succ, Bool.and_eq_true, Bool.not_eq_true'] at hn
    obtain ⟨Ls, h1, h2, h3⟩ := ih (by omega) hn.1
    have e1 : ds.getD k (0, 0) = ds[k]'(by omega) := by simp [show k < ds.length by omega]
    have hd := (ord_at h (i := k) (by omega)).1
    rw [dgB_iff] at hd
    rw [e1] at hn
    obtain ⟨Ls', k1, k2, k3⟩ := cutS_some (nc_take h (by omega) hn.1) n3 (bases_nodup h k (by omega)) (d := ds[k]'(by omega)) ⟨by omega, by omega, by omega⟩ (new_base h (by omega))
      (fun e he hc => by
        have := anyCross_iff.2 ⟨e, he, hc⟩
        rw [hn.2] at this
        cases this) h2
    refine ⟨Ls', ?_, ?_, by omega⟩
    · rw [take_snocP (by omega), cuts_snoc, h1]; exact k1
    · rw [take_snocP (by omega)]; exact k2
theorem cuts_cross {n : Nat} {ds : List (Int × Int)} (n3 : 3 ≤ n) (h : ordB (n : Int) ds = true) {k : Nat} (hk : k < ds.length) (hn : ncTo ds k = true) (hc : anyCross ds[k] (ds.take k) = true) {Ls : List (List Int)}
    (h1 : cuts n (ds.take k) = some Ls) : cutS Ls ds[k] = none := by
  obtain ⟨Ls2, h2, h3, _⟩ := cuts_some n3 h k (by omega) hn
  rw [h1] at h2
  obtain rfl := Option.some.inj h2
  obtain ⟨e, he, hx⟩ := anyCross_iff.1 hc
  exact cutS_none (nc_take h (by omega) hn) he hx h3
theorem cut_sumK {n : Nat} {ds : List (Int × Int)} (n3 : 3 ≤ n) (h : ordB (n : Int) ds = true) {k : Nat} (hk : k ≤ ds.length) (hn : ncTo ds k = true) : k + 3 ≤ n := by
  obtain ⟨Ls, _, h2, h3⟩ := cuts_some n3 h k hk hn
  have hnc := nc_take h hk hn
  have hl : Ls.length = k + 1 := by rw [h2.length_eq]; simp [basesC]; omega
  have h4 : ∀ P ∈ Ls, 3 ≤ P.length := fun P hP => by
    obtain ⟨q, hq, rfl⟩ := List.mem_map.1 (h2.mem_iff.1 hP)
    obtain ⟨c, c1, c2, c3⟩ := pc_between hnc hq n3
    have := pc_first hnc hq n3
    exact sorted_len3 (pc_sort n _ q) this.1 c1 this.2 c2 c3
  have h5 : ∀ L : List (List Int), (∀ P ∈ L, 3 ≤ P.length) → 3 * L.length ≤ (L.map List.length).sum := by
    intro L
    induction L with
    | nil => intro _; simp
    | cons a L ih =>
      intro hL
      have := ih (fun P hP => hL P (List.mem_cons_of_mem _ hP))
      have := hL a (by simp)
      simp only [List.length_cons, List.map_cons, List.sum_cons]
      omega
  have := h5 Ls h4
  omega
theorem cut_sum {n : Nat} {ds : List (Int × Int)} (n3 : 3 ≤ n) (h : ordB (n : Int) ds = true) (hn : ncTo ds ds.length = true) : ds.length + 3 ≤ n := cut_sumK n3 h (Nat.le_refl _) hn
/-- what is known of the pieces of a cut that has been begun -/
theorem cuts_rows {n : Nat} {ds : List (Int × Int)} (n3 : 3 ≤ n) (h : ordB (n : Int) ds = true) {k : Nat} (hk : k ≤ ds.length) (hn : ncTo ds k = true) {Ls : List (List Int)} (h1 : cuts n (ds.take k) = some Ls) :
    Ls.length = k + 1 ∧ Ls.Perm ((basesC n (ds.take k)).map (pc n (ds.take k))) ∧ ∀ P ∈ Ls, P.Pairwise (· < ·) ∧ P.length ≤ n ∧ 3 ≤ P.length := by
  obtain ⟨Ls2, e, h2, h3⟩ := cuts_some n3 h k hk hn
  rw [h1] at e
  obtain rfl := Option.some.inj e
  have hnc := nc_take h hk hn
  refine ⟨by rw [h2.length_eq]; simp [basesC]; omega, h2, fun P hP => ?_⟩
  obtain ⟨q, hq, rfl⟩ := List.mem_map.1 (h2.mem_iff.1 hP)
  obtain ⟨c, c1, c2, c3⟩ := pc_between hnc hq n3
  have := pc_first hnc hq n3
  refine ⟨pc_sort n _ q, ?_, sorted_len3 (pc_sort n _ q) this.1 c1 this.2 c2 c3⟩
  unfold pc
  exact Nat.le_trans (List.length_filter_le _ _) (by simp [corI])
/-- a step that fails: the whole list is no cut -/
theorem cuts_fail {n : Nat} {ds : List (Int × Int)} {k : Nat} (hk : k < ds.length) {Ls : List (List Int)} (h1 : cuts n (ds.take k) = some Ls) (h : cutS Ls ds[k] = none) : cuts n ds = none := by
  have h2 : cuts n (ds.take (k + 1)) = none := by rw [take_snocP hk, cuts_snoc, h1]; exact h
  have := cuts_none_more h2 (ds.drop (k + 1))
  rwa [List.take_append_drop] at this
theorem cuts_next {n : Nat} {ds : List (Int × Int)} {k : Nat} (hk : k < ds.length) {Ls : List (List Int)} (h1 : cuts n (ds.take k) = some Ls) : cuts n (ds.take (k + 1)) = cutS Ls ds[k] := by rw [take_snocP hk, cuts_snoc, h1]; rfl
/-- a list in order is cut apart just where no two cross -/
theorem cuts_isSome {n : Nat} {ds : List (Int × Int)} (n3 : 3 ≤ n) (h : ordB (n : Int) ds = true) : (cuts n ds).isSome = ncTo ds ds.length := by
  have key : ∀ k, k ≤ ds.length → (ncTo ds k = false → cuts n (ds.take k) = none) := by
    intro k
    induction k with
    | zero => intro _ h0; rw [ncTo_zero] at h0; cases h0
    | succ k ih =>
      intro hk h0
      cases hn : ncTo ds k
      · have := cuts_none_more (ih (by omega) hn) [ds[k]'(by omega)]
        rw [take_snocP (by omega)]; exact this
      · obtain ⟨Ls, h1, _⟩ := cuts_some n3 h k (by omega) hn
        rw [cuts_next (by omega) h1]
        rw [ncTo_succ, hn, Bool.true_and, Bool.not_eq_false'] at h0
        have e1 : ds.getD k (0, 0) = ds[k]'(by omega) := by simp [show k < ds.length by omega]
        rw [e1] at h0
        exact cuts_cross n3 h (by omega) hn h0 h1
  cases hn : ncTo ds ds.length
  · have := key _ (Nat.le_refl _) hn
    rw [List.take_length] at this
    rw [this]; rfl
  · obtain ⟨Ls, h1, _⟩ := cuts_some n3 h _ (Nat.le_refl _) hn
    rw [List.take_length] at h1
    rw [h1]; rfl
end Go.Proofs.Ytlnnnjnboknoeaa
