/- AllQuiddities: all of it (one text, since a claim holds 60 files at most). -/
import Derived.Deep.QuietTactic
import Derived.BigQuiet
import Derived.Shelf.SlSortCmp.Kit1
import Derived.Shelf.SlLaysF
import Derived.Shelf.SlSortCmp.Whole1
import Derived.Laws.AppendOwnNone
import Derived.Test.YtbpaaoeefcebeabLawSS
import Derived.Test.YtbpaaoeefcebeabTriI
import Derived.Test.YtbpaaoeefcebeabAltM
import Derived.Test.YtbpaaoeefcebeabQuidM
import Derived.Test.YtbpaaoeefcebeabEntryOfW
import Derived.Test.YtbpaaoeefcebeabAppI
import Derived.Test.YtbpaaoeefcebeabSSA
import Derived.Test.YtbpaaoeefcebeabAllTriangulationsW
import Derived.Test.YtbpaaoeefcebeabQuiddityOfW
import Derived.Test.YtbpaaoeefcebeabQuid
import Derived.Test.YtbpaaoeefcebeabTriangulationOfRankW
namespace Go.Proofs.Ytbpaaoeefcebeab
set_option linter.unusedVariables false
open Go.RowKit

/- QzM -/
/-- the first difference decides -/
def ltI : List Int → List Int → Bool
  | a :: r, b :: s => if a = b then ltI r s else decide (a < b)
  | _, _ => false
theorem ltI_irr : ∀ l : List Int, ltI l l = false
  | [] => rfl
  | a :: r => by unfold ltI; rw [if_pos rfl]; exact ltI_irr r
theorem ltI_trans : ∀ a b c : List Int, a.length = b.length → b.length = c.length → ltI a b = true → ltI b c = true → ltI a c = true
  | [], _, _, _, _, h, _ => by simp [ltI] at h
  | _ :: _, [], _, h, _, _, _ => by simp at h
  | _ :: _, _ :: _, [], _, h, _, _ => by simp at h
  | x :: a, y :: b, z :: c, h1, h2, h3, h4 => by
    unfold ltI at h3 h4 ⊢
    by_cases e1 : x = y
    · subst e1
      rw [if_pos rfl] at h3
      by_cases e2 : x = z
      · subst e2
        rw [if_pos rfl] at h4 ⊢
        exact ltI_trans a b c (by simpa using h1) (by simpa using h2) h3 h4
      · rw [if_neg e2] at h4 ⊢; exact h4
    · rw [if_neg e1, decide_eq_true_eq] at h3
      by_cases e2 : y = z
      · subst e2
        rw [if_neg e1, decide_eq_true_eq]; exact h3
      · rw [if_neg e2, decide_eq_true_eq] at h4
        rw [if_neg (by omega), decide_eq_true_eq]; omega
theorem ltI_total : ∀ a b : List Int, a.length = b.length → ltI a b = false → ltI b a = false → a = b
  | [], [], _, _, _ => rfl
  | [], _ :: _, h, _, _ => by simp at h
  | _ :: _, [], h, _, _ => by simp at h
  | x :: a, y :: b, h, h1, h2 => by
    unfold ltI at h1 h2
    by_cases e : x = y
    · subst e
      rw [if_pos rfl] at h1 h2
      rw [ltI_total a b (by simpa using h) h1 h2]
    · rw [if_neg e, decide_eq_false_iff_not] at h1
      rw [if_neg (fun e2 => e e2.symm), decide_eq_false_iff_not] at h2
      omega
/-- where it is not behind, and that is not behind a third -/
theorem leI_trans {n : Nat} {a b c : List Int} (ha : a.length = n) (hb : b.length = n) (hc : c.length = n) (h1 : ltI b a = false) (h2 : ltI c b = false) : ltI c a = false := by
  rw [Bool.eq_false_iff]
  intro h
  cases h3 : ltI a b
  · have := ltI_total a b (by omega) h3 h1
    subst this
    rw [h] at h2
    cases h2
  · have := ltI_trans c a b (by omega) (by omega) h h3
    rw [this] at h2
    cases h2
/-- how many of the first k come before q, or are q: counted from the end -/
def posI (q : List Int) (S : List (List Int)) : Nat → Nat
  | 0 => 0
  | k + 1 => if ltI q (rowOf S k) = true then posI q S k else k + 1
theorem posI_le (q : List Int) (S : List (List Int)) : ∀ k, posI q S k ≤ k
  | 0 => Nat.le_refl _
  | k + 1 => by
    unfold posI
    split
    · have := posI_le q S k; omega
    · exact Nat.le_refl _
theorem posI_hi (q : List Int) (S : List (List Int)) : ∀ k j, posI q S k ≤ j → j < k → ltI q (rowOf S j) = true
  | 0, j, _, h => by omega
  | k + 1, j, h, hj => by
    unfold posI at h
    split at h
    · rename_i hx
      by_cases e : j = k
      · subst e; exact hx
      · exact posI_hi q S k j h (by omega)
    · omega
theorem posI_at (q : List Int) (S : List (List Int)) : ∀ k, 0 < posI q S k → ltI q (rowOf S (posI q S k - 1)) = false
  | 0, h => by simp [posI] at h
  | k + 1, h => by
    unfold posI at h ⊢
    split at h
    · rename_i hx
      rw [if_pos hx]
      exact posI_at q S k h
    · rename_i hx
      rw [if_neg hx, Nat.add_sub_cancel]
      exact Bool.eq_false_iff.2 hx
def insI (q : List Int) (S : List (List Int)) : List (List Int) := S.take (posI q S S.length) ++ q :: S.drop (posI q S S.length)
theorem insI_perm (q : List Int) (S : List (List Int)) : (insI q S).Perm (q :: S) := by
  unfold insI
  have h := List.perm_middle (a := q) (l₁ := S.take (posI q S S.length)) (l₂ := S.drop (posI q S S.length))
  rwa [List.take_append_drop] at h
theorem insI_length (q : List Int) (S : List (List Int)) : (insI q S).length = S.length + 1 := (insI_perm q S).length_eq
/-- in order: none comes before one that lies ahead of it -/
def SortI (S : List (List Int)) : Prop := S.Pairwise fun a b => ltI b a = false
theorem insI_sort {n : Nat} {q : List Int} {S : List (List Int)} (hS : SortI S) (hq : q.length = n) (hn : ∀ x ∈ S, x.length = n) : SortI (insI q S) := by
  unfold SortI insI at *
  have hp := posI_le q S S.length
  have hhi := posI_hi q S S.length
  have hat := posI_at q S S.length
  generalize posI q S S.length = p at *
  have hT : (S.take p).Pairwise fun a b => ltI b a = false := hS.sublist (List.take_sublist _ _)
  have hD : (S.drop p).Pairwise fun a b => ltI b a = false := hS.sublist (List.drop_sublist _ _)
  have hcross : ∀ a ∈ S.take p, ∀ b ∈ S.drop p, ltI b a = false := by
    have h := hS
    rw [← List.take_append_drop p S, List.pairwise_append] at h
    exact h.2.2
  rw [List.pairwise_append]
  refine ⟨hT, ?_, ?_⟩
  · rw [List.pairwise_cons]
    refine ⟨fun b hb => ?_, hD⟩
    obtain ⟨i, hi, rfl⟩ := List.getElem_of_mem hb
    rw [List.length_drop] at hi
    have h1 := hhi (p + i) (by omega) (by omega)
    have e : (S.drop p)[i]'(by rw [List.length_drop]; exact hi) = rowOf S (p + i) := by simp [rowOf, show p + i < S.length by omega]
    rw [e, Bool.eq_false_iff]
    intro h2
    have hl : (rowOf S (p + i)).length = n := by rw [← e]; exact hn _ (List.mem_of_mem_drop hb)
    have := ltI_trans q _ q (by omega) (by omega) h1 h2
    rw [ltI_irr] at this
    cases this
  · intro a ha b hb
    rw [List.mem_cons] at hb
    rcases hb with rfl | hb
    · have hpos : 0 < p := by
        cases p with
        | zero => simp at ha
        | succ p => omega
      have h1 := hat hpos
      obtain ⟨i, hi, rfl⟩ := List.getElem_of_mem ha
      rw [List.length_take] at hi
      have e : (S.take p)[i]'(by rw [List.length_take]; exact hi) = S[i]'(by omega) := by simp
      have e2 : rowOf S (p - 1) = S[p - 1]'(by omega) := by simp [rowOf, show p - 1 < S.length by omega]
      rw [e2] at h1
      rw [e]
      by_cases hip : i = p - 1
      · subst hip; exact h1
      · have h2 := (List.pairwise_iff_getElem.1 hS) i (p - 1) (by omega) (by omega) (by omega)
        exact leI_trans (n := n) (hn _ (List.getElem_mem _)) (hn _ (List.getElem_mem _)) hq h2 h1
    · exact hcross a ha b hb
/-- two in order that hold the same are the same -/
theorem sort_unique {n : Nat} : ∀ (S T : List (List Int)), S.Perm T → SortI S → SortI T → (∀ x ∈ S, x.length = n) → S = T
  | [], T, h, _, _, _ => (List.nil_perm.1 h).symm ▸ rfl
  | a :: S, T, h, hS, hT, hn => by
    cases T with
    | nil => exact absurd h.length_eq (by simp)
    | cons b T =>
      have hab : a = b := by
        have ha : a ∈ b :: T := h.mem_iff.1 List.mem_cons_self
        have hb : b ∈ a :: S := h.mem_iff.2 List.mem_cons_self
        have la := hn a List.mem_cons_self
        have lb := hn b hb
        rcases List.mem_cons.1 ha with e | e
        · exact e
        · rcases List.mem_cons.1 hb with e2 | e2
          · exact e2.symm
          · exact ltI_total a b (by omega) ((List.pairwise_cons.1 hT).1 a e) ((List.pairwise_cons.1 hS).1 b e2)
      subst hab
      rw [sort_unique S T (List.Perm.cons_inv h) (List.pairwise_cons.1 hS).2 (List.pairwise_cons.1 hT).2 (fun x hx => hn x (List.mem_cons_of_mem _ hx))]

/- QzS -/
theorem ltI_drop {a b : List Int} {k : Nat} (ha : k < a.length) (hb : k < b.length) : ltI (a.drop k) (b.drop k) = if a.getD k 0 = b.getD k 0 then ltI (a.drop (k + 1)) (b.drop (k + 1)) else decide (a.getD k 0 < b.getD k 0) := by
  rw [List.drop_eq_getElem_cons ha, List.drop_eq_getElem_cons hb]
  have e1 : a.getD k 0 = a[k] := by simp [ha]
  have e2 : b.getD k 0 = b[k] := by simp [hb]
  rw [e1, e2]
  rfl
set_option maxRecDepth 100000 in
set_option maxHeartbeats 1600000 in
theorem spec_caListBefore (A A2 : Option Addr) (c c2 B B2 n : Nat) (l r : List Int) (w : World) (hl : l.length = n) (hr : r.length = n) (h : SlI w B A l) (h2 : SlI w B2 A2 r) (hB : B ≤ w.heap.size) (hB2 : B2 ≤ w.heap.size) (hn : n ≤ 1000) :
    Calls Try.prog 115 #[.slice A n c, .slice A2 n c2] w fun e w' => e = .returned (.bool (ltI l r)) ∧ Below w.heap.size w w' := by
  have Hl := Lib.hid hl
  have Hr := Lib.hid hr
  clear hl hr
  go_enter Try.func115, Try.ntmps115
  go_wp2
  go_loopw [5, 8] (fun _ i wr => ∃ k : Nat, k ≤ n ∧ i = .int .i64 k ∧ ltI (l.drop k) (r.drop k) = ltI l r ∧ Below w.heap.size w wr) (fun _ i _ => n - (intOf i).toNat)
  case atStart => exact ⟨0, Nat.zero_le _, rfl, rfl, Below.refl _ _⟩
  case round =>
    obtain ⟨k, hk, rfl, ht, hb⟩ := hrel
    by_cases hlt : k < n
    · obtain ⟨b, off, rfl, hbB, hc⟩ := h.below (hb.mono hB) (by have := Hl.out; omega)
      have g0 := hc k (by rw [Hl.out]; exact hlt)
      obtain ⟨b2, off2, rfl, hbB2, hc2⟩ := h2.below (hb.mono hB2) (by have := Hr.out; omega)
      have q0 := hc2 k (by rw [Hr.out]; exact hlt)
      have i0 : (0 : Int) ≤ (k : Int) := by omega
      have i1 : (k : Int) < (n : Int) := by omega
      rw [ltI_drop (by rw [Hl.out]; exact hlt) (by rw [Hr.out]; exact hlt)] at ht
      generalize l.getD k 0 = x at *
      generalize r.getD k 0 = u at *
      have Ht := Lib.hid ht
      clear hc hc2 ht
      by_cases hx : x = u
      · subst hx
        rw [if_pos rfl] at Ht
        go_wp2
        go_quiet (fail)
        go_wp2
        go_roundw
        case rel => exact ⟨k + 1, by omega, by go_num, Ht.out, below_drewN hb _⟩
        case measure => simp [intOf]; omega
      · rw [if_neg hx] at Ht
        have hx' : (x != u) = true := by simpa using hx
        go_wp2
        go_quiet (fail)
        go_wp2
        go_quiet (fail)
        go_wp2
        go_ret
        exact ⟨ret_bool Ht.out, below_drewN (below_drewN hb _) _⟩
    · obtain rfl : k = n := by omega
      have e : ltI l r = false := by
        rw [← ht, List.drop_of_length_le (by rw [Hl.out]; exact Nat.le_refl _)]
        unfold ltI
        rfl
      have Heq := Lib.hid e
      clear ht e
      go_wp2
      go_ret
      exact ⟨ret_bool Heq.out.symm, hb⟩

def cmpI : List Int → List Int → Int
  | a :: r, b :: s => if a = b then cmpI r s else sgnI a b
  | _, _ => 0
theorem cmpI_lt : ∀ a b : List Int, decide (cmpI a b < 0) = ltI a b
  | [], _ => by unfold cmpI ltI; rfl
  | _ :: _, [] => by unfold cmpI ltI; rfl
  | a :: r, b :: s => by
    unfold cmpI ltI
    by_cases e : a = b
    · rw [if_pos e, if_pos e]; exact cmpI_lt r s
    · rw [if_neg e, if_neg e]
      unfold sgnI
      by_cases h : a < b
      · simp [h]
      · simp [h]; split <;> simp
theorem cmpI_zero : ∀ a b : List Int, a.length = b.length → (cmpI a b = 0 ↔ a = b)
  | [], [], _ => by simp [cmpI]
  | [], _ :: _, h => by simp at h
  | _ :: _, [], h => by simp at h
  | a :: r, b :: s, h => by
    unfold cmpI
    by_cases e : a = b
    · subst e
      rw [if_pos rfl, cmpI_zero r s (by simpa using h)]
      simp
    · rw [if_neg e]
      constructor
      · intro h2
        unfold sgnI at h2
        split at h2
        · omega
        · split at h2 <;> omega
      · intro h2
        injection h2 with h3
        exact absurd h3 e
theorem cmpI_drop {a b : List Int} {k : Nat} (ha : k < a.length) (hb : k < b.length) : cmpI (a.drop k) (b.drop k) = if a.getD k 0 = b.getD k 0 then cmpI (a.drop (k + 1)) (b.drop (k + 1)) else sgnI (a.getD k 0) (b.getD k 0) := by
  rw [List.drop_eq_getElem_cons ha, List.drop_eq_getElem_cons hb]
  have e1 : a.getD k 0 = a[k] := by simp [ha]
  have e2 : b.getD k 0 = b[k] := by simp [hb]
  rw [e1, e2]
  rfl
set_option maxRecDepth 100000 in
set_option maxHeartbeats 1600000 in
theorem slices_CompareI (A A2 : Option Addr) (c c2 B B2 n : Nat) (l r : List Int) (w : World) (hl : l.length = n) (hr : r.length = n) (h : SlI w B A l) (h2 : SlI w B2 A2 r) (hn : n ≤ 1000) :
    Calls Try.prog 84 #[.slice A n c, .slice A2 n c2] w fun e w' => e = .returned (.int .i64 (cmpI l r)) ∧ w = w' := by
  have Hl := Lib.hid hl
  have Hr := Lib.hid hr
  clear hl hr
  go_enter Try.func84, Try.ntmps84
  go_wp2
  go_loop [5, 6, 7, 8, 11] (fun _ _ _ _ i => ∃ k : Nat, k ≤ n ∧ i = .int .i64 k ∧ cmpI (l.drop k) (r.drop k) = cmpI l r) (fun _ _ _ _ i => n - (intOf i).toNat)
  case atStart => exact ⟨0, Nat.zero_le _, rfl, rfl⟩
  case round =>
    obtain ⟨k, hk, rfl, ht⟩ := hrel
    by_cases hlt : k < n
    · obtain ⟨b, off, rfl, hbB, hc⟩ := h (by have := Hl.out; omega)
      have g0 := hc k (by rw [Hl.out]; exact hlt)
      obtain ⟨b2, off2, rfl, hbB2, hc2⟩ := h2 (by have := Hr.out; omega)
      have q0 := hc2 k (by rw [Hr.out]; exact hlt)
      have i0 : (0 : Int) ≤ (k : Int) := by omega
      have i1 : (k : Int) < (n : Int) := by omega
      rw [cmpI_drop (by rw [Hl.out]; exact hlt) (by rw [Hr.out]; exact hlt)] at ht
      generalize l.getD k 0 = x at *
      generalize r.getD k 0 = u at *
      have Ht := Lib.hid ht
      clear hc hc2 ht
      by_cases hx : x = u
      · subst hx
        rw [if_pos rfl] at Ht
        have e0 : sgnI x x = 0 := by simp [sgnI]
        go_wp2_with fail
        refine (cmp_Compare _ _ _).mono ?_
        rintro e w1 ⟨rfl, rfl⟩
        rw [e0]
        go_wp2
        go_round
        case rel => exact ⟨k + 1, by omega, by go_num, Ht.out⟩
        case measure => simp [intOf]; omega
      · rw [if_neg hx] at Ht
        have e0 : sgnI x u = -1 ∨ sgnI x u = 1 := by unfold sgnI; split; exact .inl rfl; rw [if_pos (by omega)]; exact .inr rfl
        go_wp2_with fail
        refine (cmp_Compare _ _ _).mono ?_
        rintro e w1 ⟨rfl, rfl⟩
        generalize sgnI x u = s at *
        have s0 : (s != 0) = true := by rcases e0 with rfl | rfl <;> rfl
        clear e0
        go_wp2
        go_ret
        exact ⟨by rw [← Ht.out]; rfl, rfl⟩
    · obtain rfl : k = n := by omega
      have e : cmpI l r = 0 := by
        rw [← ht, List.drop_of_length_le (by rw [Hl.out]; exact Nat.le_refl _)]
        unfold cmpI
        rfl
      have Heq := Lib.hid e
      clear ht e
      go_wp2
      go_ret
      exact ⟨by rw [Heq.out]; rfl, rfl⟩

/- QzT -/
/-- put in order one by one -/
def QS (T : List (List Int)) : Nat → List (List Int)
  | 0 => []
  | k + 1 => insI (rowOf T k) (QS T k)
theorem QS_perm (T : List (List Int)) : ∀ k, k ≤ T.length → (QS T k).Perm (T.take k)
  | 0, _ => by simp [QS]
  | k + 1, h => by
    have h1 := insI_perm (rowOf T k) (QS T k)
    have h2 := (QS_perm T k (by omega)).cons (rowOf T k)
    have e : rowOf T k = T[k]'(by omega) := by simp [rowOf, show k < T.length by omega]
    rw [List.take_succ_eq_append_getElem (by omega), ← e]
    exact h1.trans (h2.trans (List.perm_append_comm (l₁ := [rowOf T k]) (l₂ := T.take k)))
theorem QS_length (T : List (List Int)) (k : Nat) (h : k ≤ T.length) : (QS T k).length = k := by
  rw [(QS_perm T k h).length_eq, List.length_take]; omega
theorem QS_rows {T : List (List Int)} {m : Nat} (hT : ∀ x ∈ T, x.length = m) (k : Nat) (h : k ≤ T.length) : ∀ x ∈ QS T k, x.length = m := fun x hx => hT x (List.mem_of_mem_take ((QS_perm T k h).mem_iff.1 hx))
theorem QS_sort {T : List (List Int)} {m : Nat} (hT : ∀ x ∈ T, x.length = m) : ∀ k, k ≤ T.length → SortI (QS T k)
  | 0, _ => List.Pairwise.nil
  | k + 1, h => by
    have hq : (rowOf T k).length = m := hT _ (by
      have e : rowOf T k = T[k]'(by omega) := by simp [rowOf, show k < T.length by omega]
      rw [e]
      exact List.getElem_mem _)
    exact insI_sort (QS_sort hT k (by omega)) hq (QS_rows hT k (by omega))
/-- the quiddities of all triangulations, as these lie -/
def qzT (m : Nat) : List (List Int) := (altL m).map (quidF m)
def qzR (n : Int) : List (List Int) := if inB n 3 8 = true then QS (qzT n.toNat) (qzT n.toNat).length else []
theorem qzT_rows (m : Nat) : ∀ x ∈ qzT m, x.length = m := fun x hx => by
  obtain ⟨d, _, rfl⟩ := List.mem_map.1 hx
  exact quidF_length m d
/-- whatever is in order and holds the same is that -/
theorem qz_unique {m : Nat} {S : List (List Int)} (hp : S.Perm (qzT m)) (hs : SortI S) : S = QS (qzT m) (qzT m).length := by
  have h1 := QS_perm (qzT m) _ (Nat.le_refl _)
  rw [List.take_length] at h1
  exact sort_unique (n := m) S _ (hp.trans h1.symm) hs (QS_sort (qzT_rows m) _ (Nat.le_refl _)) (fun x hx => qzT_rows m x (hp.mem_iff.1 hx))
/-- the program's rows, k of them laid -/
def qzH (m k : Nat) : List (List Int) := (qzT m).take k ++ List.replicate ((qzT m).length - k) []
theorem qzH_length (m k : Nat) (h : k ≤ (qzT m).length) : (qzH m k).length = (qzT m).length := by simp [qzH]; omega
theorem qzH_zero (m : Nat) : qzH m 0 = List.replicate (qzT m).length [] := by simp [qzH]
theorem qzH_all (m : Nat) : qzH m (qzT m).length = qzT m := by simp [qzH]
theorem qzH_set (m k : Nat) (h : k < (qzT m).length) : (qzH m k).set k (rowOf (qzT m) k) = qzH m (k + 1) := by
  unfold qzH
  have e : rowOf (qzT m) k = (qzT m)[k] := by simp [rowOf, h]
  rw [List.set_append_right _ _ (by simp; omega)]
  have e1 : k - ((qzT m).take k).length = 0 := by simp; omega
  rw [e1, show (qzT m).length - k = ((qzT m).length - (k + 1)) + 1 by omega, List.replicate_succ, List.set_cons_zero, List.take_succ_eq_append_getElem h, List.append_assoc, e]
  rfl

/- SrtQW -/
section
variable {N : Nat}
/-- the value of a row, what is told of two rows -/
def encQ (rs : List Value) (i : Fin (N + 1)) : Value := rvOf rs i.1
def cmpQ (Ls : List (List Int)) (i j : Fin (N + 1)) : Int := cmpI (rowOf Ls i.1) (rowOf Ls j.1)
theorem ltQ_iff (Ls : List (List Int)) (x y : Fin (N + 1)) : Go.Proofs.ltOf (cmpQ Ls) x y = ltI (rowOf Ls x.1) (rowOf Ls y.1) := by
  rw [← cmpI_lt]
  rfl
theorem swoQ (Ls : List (List Int)) (m : Nat) (h : ∀ j, j < N + 1 → (rowOf Ls j).length = m) : Go.Sort.SWO (Go.Proofs.ltOf (cmpQ (N := N) Ls)) where
  irrefl x := by rw [ltQ_iff]; exact ltI_irr _
  trans x y z h1 h2 := by
    rw [ltQ_iff] at *
    exact ltI_trans _ _ _ (by rw [h _ x.2, h _ y.2]) (by rw [h _ y.2, h _ z.2]) h1 h2
  ntrans x y z h1 h2 := by
    rw [ltQ_iff] at *
    exact leI_trans (h _ z.2) (h _ y.2) (h _ x.2) h2 h1
theorem grown_sort {α : Type} [Inhabited α] (enc : α → Value) (w : World) (g m : Nat) (d : Array α) (os : Array Obj) : w.grownBy (Go.Proofs.sortWorld enc w g 0 m d os) (some g) where
  os := rfl
  tape := rfl
  output := rfl
  size := by
    unfold Go.Proofs.sortWorld
    rw [Go.Sort.size_grow]
    simp [Go.Sort.putRow, Go.Sort.mapBlock, Go.Sort.ahead]
  block := fun k hk hne => by
    unfold Go.Proofs.sortWorld
    rw [Go.Sort.heap_grow_old _ _ (by simpa [Go.Sort.putRow, Go.Sort.mapBlock, Go.Sort.ahead] using hk)]
    show (w.heap.modify g _)[k]? = _
    rw [Array.getElem?_modify, if_neg (fun e => hne (by rw [e]))]
theorem own_sort {α : Type} [Inhabited α] (enc : α → Value) {w : World} {B e g n c m : Nat} {os : Array Obj} {xs : List Value} (d : Array α) (hn : d.size = n) (h : w.ownsRow B e 1 (.slice (some ⟨g, 0, none⟩) n c) n xs) :
    (Go.Proofs.sortWorld enc w g 0 m d os).ownsRow B e 1 (.slice (some ⟨g, 0, none⟩) n c) n (d.toList.map enc) := by
  rcases h.2 with ⟨h', _⟩ | ⟨g', cap, cur, h', hb, hh, hc, hcm, hs, ht⟩
  · cases h'
  · cases h'
    refine ⟨by simp [hn], .inr ⟨g, c, Go.Sort.putCells enc 0 d cur, rfl, hb, ?_, hc, hcm, ?_, ?_⟩⟩
    · have hlt : g < w.heap.size := by
        have := Array.getElem?_eq_some_iff.1 hh
        exact this.1
      unfold Go.Proofs.sortWorld
      rw [Go.Sort.heap_grow_old _ _ (by simpa [Go.Sort.putRow, Go.Sort.mapBlock, Go.Sort.ahead] using hlt)]
      show (w.heap.modify g _)[g]? = _
      rw [Array.getElem?_modify, if_pos rfl, hh]
      rfl
    · simp [Go.Sort.putCells, hs]
    · refine List.ext_getElem? fun t => ?_
      by_cases hlt : t < n
      · rw [List.getElem?_take_of_lt (by omega), Array.getElem?_toList, List.getElem?_map, Array.getElem?_toList]
        have hcs : t < cur.size := by omega
        simp [Go.Sort.putCells, hcs, hn, hlt]
      · rw [List.getElem?_eq_none (by simp; omega), List.getElem?_eq_none (by simp; omega)]
theorem holdsQ {w : World} {B e g n c : Nat} {rs : List Value} (hn : n = N + 1) (h : w.ownsRow B e 1 (.slice (some ⟨g, 0, none⟩) n c) n rs) : Go.Sort.Holds (encQ (N := N) rs) w g 0 (List.finRange (N + 1)).toArray := by
  intro j hj
  have hj' : j < N + 1 := by simpa using hj
  rw [Nat.zero_add]
  refine ⟨?_, h.frozenAt j⟩
  have hl := h.1
  rw [h.cellAt j (by omega)]
  have e1 : ((List.finRange (N + 1)).toArray)[j]! = ⟨j, hj'⟩ := by
    rw [getElem!_pos _ j hj]
    simp
  rw [e1]
  unfold encQ rvOf
  rw [List.getD_eq_getElem?_getD, List.getElem?_eq_getElem (show j < rs.length by omega), Option.getD_some]
end

/- SrtQL -/
section
open Go.Shelf
def srtQR : Go.Shelf.Ren := ⟨fun | 6 => 83 | 14 => 118 | 15 => 119 | 20 => 134 | 21 => 135 | 22 => 136 | 23 => 137 | 24 => 138 | 25 => 139 | 26 => 140 | 27 => 141 | 28 => 142 | 29 => 143 | 46 => 154 | 47 => 155 | 48 => 156 | 49 => 157 | 50 => 158 | 57 => 172 | n => n,
  fun | 0 => 0 | 3 => 3 | 4 => 4 | 5 => 5 | 9 => 9 | 22 => 45 | 24 => 50 | 25 => 81 | 39 => 105 | 45 => 114 | 46 => 115 | 50 => 24 | 53 => 121 | 55 => 123 | 66 => 132 | 70 => 136 | 76 => 147 | 77 => 148 | n => n, fun | n => n⟩
theorem srtQL : SlLaysF.n6 Try.prog srtQR := {
  mixed := by kernel_rfl
  f6 := ⟨Try.f83.name, by decide, Try.func83.trans (congrArg some (by kernel_rfl))⟩
  f14 := ⟨Try.f118.name, by decide, Try.func118.trans (congrArg some (by kernel_rfl))⟩
  f15 := Try.func119.trans (congrArg some (by kernel_rfl))
  f20 := ⟨Try.f134.name, by decide, Try.func134.trans (congrArg some (by kernel_rfl))⟩
  f21 := ⟨Try.f135.name, by decide, Try.func135.trans (congrArg some (by kernel_rfl))⟩
  f22 := ⟨Try.f136.name, by decide, Try.func136.trans (congrArg some (by kernel_rfl))⟩
  f23 := ⟨Try.f137.name, by decide, Try.func137.trans (congrArg some (by kernel_rfl))⟩
  f24 := ⟨Try.f138.name, by decide, Try.func138.trans (congrArg some (by kernel_rfl))⟩
  f25 := ⟨Try.f139.name, by decide, Try.func139.trans (congrArg some (by kernel_rfl))⟩
  f26 := ⟨Try.f140.name, by decide, Try.func140.trans (congrArg some (by kernel_rfl))⟩
  f27 := ⟨Try.f141.name, by decide, Try.func141.trans (congrArg some (by kernel_rfl))⟩
  f28 := Try.func142.trans (congrArg some (by kernel_rfl))
  f29 := Try.func143.trans (congrArg some (by kernel_rfl))
  f46 := ⟨Try.f154.name, by decide, Try.func154.trans (congrArg some (by kernel_rfl))⟩
  f47 := Try.func155.trans (congrArg some (by kernel_rfl))
  f48 := Try.func156.trans (congrArg some (by kernel_rfl))
  f49 := ⟨Try.f157.name, by decide, Try.func157.trans (congrArg some (by kernel_rfl))⟩
  f50 := ⟨Try.f158.name, by decide, Try.func158.trans (congrArg some (by kernel_rfl))⟩
  f57 := ⟨Try.f172.name, by decide, Try.func172.trans (congrArg some (by kernel_rfl))⟩
  t0 := Try.underlying0
  a0 := Try.isAgg0
  z0 := Try.sizeOf0
  v0 := Try.zeroValue0
  t3 := Try.underlying3
  a3 := Try.isAgg3
  z3 := Try.sizeOf3
  v3 := Try.zeroValue3
  t4 := Try.underlying4
  a4 := Try.isAgg4
  z4 := Try.sizeOf4
  v4 := Try.zeroValue4
  t5 := Try.underlying5
  a5 := Try.isAgg5
  z5 := Try.sizeOf5
  v5 := Try.zeroValue5
  t9 := Try.underlying9
  a9 := Try.isAgg9
  z9 := Try.sizeOf9
  v9 := Try.zeroValue9
  t22 := Try.underlying45
  a22 := Try.isAgg45
  z22 := Try.sizeOf45
  v22 := Try.zeroValue45
  t25 := Try.underlying81
  a25 := Try.isAgg81
  z25 := Try.sizeOf81
  v25 := Try.zeroValue81
  t39 := Try.underlying105
  a39 := Try.isAgg105
  z39 := Try.sizeOf105
  v39 := Try.zeroValue105
  t45 := Try.underlying114
  a45 := Try.isAgg114
  z45 := Try.sizeOf114
  v45 := Try.zeroValue114
  t46 := Try.underlying115
  a46 := Try.isAgg115
  z46 := Try.sizeOf115
  v46 := Try.zeroValue115
  t50 := Try.underlying24
  a50 := Try.isAgg24
  z50 := Try.sizeOf24
  v50 := Try.zeroValue24
  t53 := Try.underlying121
  a53 := Try.isAgg121
  z53 := Try.sizeOf121
  v53 := Try.zeroValue121
  t55 := Try.underlying123
  a55 := Try.isAgg123
  z55 := Try.sizeOf123
  v55 := Try.zeroValue123
  t66 := Try.underlying132
  a66 := Try.isAgg132
  z66 := Try.sizeOf132
  v66 := Try.zeroValue132
  t70 := Try.underlying136
  a70 := Try.isAgg136
  z70 := Try.sizeOf136
  v70 := Try.zeroValue136
  t76 := Try.underlying147
  a76 := Try.isAgg147
  z76 := Try.sizeOf147
  v76 := Try.zeroValue147
  t77 := Try.underlying148
  a77 := Try.isAgg148
  z77 := Try.sizeOf148
  v77 := Try.zeroValue148
  a24 := Try.isAgg50
  z24 := Try.sizeOf50
}
end

/- SrtQI -/
theorem extract_all {α : Type} (d : Array α) (n : Nat) (h : d.size = n) : d.extract 0 n = d := by subst h; simp
theorem cmpLaysQ {B g c N m : Nat} {rs : List Value} {Ls : List (List Int)} {w : World} (hN : Ls.length = N + 1) (hm : ∀ j, j < N + 1 → (rowOf Ls j).length = m) (hm9 : m ≤ 1000) (ho : OwnSS w B (some ⟨g, 0, none⟩) c rs Ls) (size : Nat) :
    Go.Proofs.CmpLays1 Try.prog 84 #[] (encQ (N := N) rs) (cmpQ Ls) g 0 size w := by
  intro k os dk _ x y
  have far : ∀ i : Fin (N + 1), ∃ A c, encQ rs i = .slice A m c ∧ SlI (Go.Proofs.sortWorld (encQ (N := N) rs) w g 0 k dk os) (Go.Proofs.sortWorld (encQ (N := N) rs) w g 0 k dk os).heap.size A (rowOf Ls i.1) := fun i => by
    have h1 := ho.2.2.1 i.1 (by rw [hN]; exact i.2)
    have h2 := own_far h1 (grown_sort (encQ (N := N) rs) w g k dk os) (fun j hj e => own_ne h1 ho.2.1 (by decide) j hj e)
    obtain ⟨A, c, e⟩ := own_form h2
    rw [e] at h2
    refine ⟨A, c, ?_, SlI.of_own h2⟩
    unfold encQ
    rw [e, hm _ i.2]
  obtain ⟨A1, c1, e1, s1⟩ := far x
  obtain ⟨A2, c2, e2, s2⟩ := far y
  rw [e1, e2]
  refine Calls.mono (slices_CompareI A1 A2 c1 c2 _ _ m (rowOf Ls x.1) (rowOf Ls y.1) _ (hm _ x.2) (hm _ y.2) s1 s2 hm9) ?_
  rintro e w' ⟨he, hw⟩
  exact ⟨he, 0, #[], by rw [← hw, Go.Sort.grow_empty]; rfl⟩
theorem impl_SortQ (B g c N m : Nat) (rs : List Value) (Ls : List (List Int)) (w : World) (hN : Ls.length = N + 1) (hm : ∀ j, j < N + 1 → (rowOf Ls j).length = m) (hm9 : m ≤ 1000) (hn : N ≤ 1000000) (hB : B ≤ w.heap.size)
    (ho : OwnSS w B (some ⟨g, 0, none⟩) c rs Ls) :
    Calls Try.prog 83 #[.slice (some ⟨g, 0, none⟩) (N + 1) c, .func (.func 84) #[] #[]] w fun e w' => e = .returned (.tuple #[]) ∧
      ∃ (rs' : List Value) (Ls' : List (List Int)), Ls'.Perm Ls ∧ SortI Ls' ∧ OwnSS w' B (some ⟨g, 0, none⟩) c rs' Ls' ∧ Below B w w' := by
  have hout := ho.2.1
  rw [hN] at hout
  have hbg : B ≤ g ∧ g < w.heap.size := hout.lt g rfl
  have eg : ∀ args w, (callFunc 84 args).run Try.prog w = .ok (.enter 84 args) w := enters_of Try.func84 (by kernel_rfl) rfl
  have hsz : (List.finRange (N + 1)).toArray.size = N + 1 := by simp
  have hcm := cmpLaysQ hN hm hm9 ho (N + 1)
  have hk := holdsQ (N := N) rfl hout
  have h1 : OneCell (encQ (N := N) rs) := fun i => by
    obtain ⟨A, c, e⟩ := own_form (ho.2.2.1 i.1 (by rw [hN]; exact i.2))
    unfold encQ
    rw [e]
    rfl
  have hcon := Any.slices_SortFunc srtQL (encQ (N := N) rs) h1 (cmpQ Ls) (swoQ Ls m hm) 84 #[] g 0 c (List.finRange (N + 1)).toArray w eg (by rw [hsz]; exact hcm) hk hbg.2 (by rw [hsz]; omega)
  rw [hsz] at hcon
  refine Calls.mono hcon ?_
  rintro e w' ⟨rfl, d', k, os, hp, hs, rfl⟩
  obtain ⟨p1, _, p3⟩ := hp
  have hd : d'.size = N + 1 := p1.trans hsz
  rw [extract_all d' _ hd, extract_all _ _ hsz] at p3
  have hL : d'.toList.length = N + 1 := by simpa using hd
  have hperm : d'.toList.Perm (List.finRange (N + 1)) := p3
  have hall : (List.finRange (N + 1)).map (fun i => rowOf Ls i.1) = Ls := by
    refine List.ext_getElem (by simp [hN]) fun j h1 h2 => ?_
    simp [rowOf, h2]
  have hnd : d'.toList.Nodup := hperm.nodup_iff.2 (List.nodup_finRange _)
  have hgr := grown_sort (encQ (N := N) rs) w g k d' os
  have hrv : ∀ j (hj : j < d'.toList.length), rvOf (d'.toList.map (encQ rs)) j = rvOf rs (d'.toList[j]).1 := fun j hj => by
    conv => lhs; unfold rvOf
    rw [List.getD_eq_getElem?_getD, List.getElem?_map, List.getElem?_eq_getElem hj]
    rfl
  have hrw : ∀ j (hj : j < d'.toList.length), rowOf (d'.toList.map fun i => rowOf Ls i.1) j = rowOf Ls (d'.toList[j]).1 := fun j hj => by
    conv => lhs; unfold rowOf
    rw [List.getD_eq_getElem?_getD, List.getElem?_map, List.getElem?_eq_getElem hj]
    rfl
  refine ⟨rfl, d'.toList.map (encQ rs), d'.toList.map (fun i => rowOf Ls i.1), ?_, ?_, ⟨by simp, ?_, fun j hj => ?_, fun i j hi hj hij q hq => ?_⟩, ?_⟩
  · have := hperm.map (fun i => rowOf Ls i.1)
    rwa [hall] at this
  · unfold SortI
    rw [List.pairwise_map, List.pairwise_iff_getElem]
    intro i j hi hj hij
    have := hs i j (Nat.zero_le _) hij (by simpa [hd] using hj)
    rw [ltQ_iff, getElem!_pos d' j (by simpa using hj), getElem!_pos d' i (by simpa using hi)] at this
    simpa using this
  · rw [List.length_map, hL]
    exact own_sort (encQ (N := N) rs) d' hd hout
  · rw [List.length_map] at hj
    rw [hrv j hj, hrw j hj]
    have h1 := ho.2.2.1 (d'.toList[j]).1 (by rw [hN]; exact (d'.toList[j]).2)
    exact own_far h1 hgr (fun q hq e => own_ne h1 ho.2.1 (by decide) q hq e)
  · rw [List.length_map] at hi hj
    rw [hrv i hi] at hq
    rw [hrv j hj]
    refine ho.2.2.2 _ _ (by rw [hN]; exact (d'.toList[i]).2) (by rw [hN]; exact (d'.toList[j]).2) (fun e => hij ?_) q hq
    rcases Nat.lt_trichotomy i j with hlt | hlt | hlt
    · exact absurd (Fin.ext e) (List.pairwise_iff_getElem.1 hnd i j hi hj hlt)
    · exact hlt
    · exact absurd (Fin.ext e.symm) (List.pairwise_iff_getElem.1 hnd j i hj hi hlt)
  · exact (Below.refl B w).grown hgr hB (fun q hq => by have h1 : g = q := Option.some.inj hq; omega)

/- QzI -/
theorem alt_pos : ∀ n : Fin 9, 3 ≤ (n : Nat) → 1 ≤ (altL n).length := by decide +kernel
theorem qz_len {m : Nat} : (qzT m).length = (altL m).length := by simp [qzT]
theorem alt_tri {m : Nat} (h3 : 3 ≤ m) (h8 : m ≤ 8) {k : Nat} (hk : k < (altL m).length) : (rowD (altL m) k).length ≤ 5 ∧ triB (m : Int) (rowD (altL m) k) = true := by
  have e : rowD (altL m) k = (altL m)[k] := by simp [rowD, hk]
  have := alt_row ⟨m, by omega⟩ h3 ((altL m)[k]) (List.getElem_mem hk)
  rw [e]
  exact ⟨by have := this.1; simp at this; omega, this.2⟩
theorem qz_row {m k : Nat} (hk : k < (altL m).length) : rowOf (qzT m) k = quidF m (rowD (altL m) k) := by
  unfold rowOf qzT rowD
  simp [hk]
theorem qzR_yes {m : Nat} (h : inB (m : Int) 3 8 = true) : qzR (m : Int) = QS (qzT m) (qzT m).length := by unfold qzR; rw [if_pos h, Int.toNat_natCast]
theorem qzR_no {n : Int} (h : inB n 3 8 = false) : qzR n = [] := by unfold qzR; rw [h]; rfl

set_option maxRecDepth 100000 in
set_option maxHeartbeats 3200000 in
theorem impl_AllQuiddities (n : Int) (w : World) : Calls Try.prog 42 #[.int .i64 n] w (RetSS w (qzR n) (inB n 3 8)) := by
  have HA := Lib.hid (impl_AllTriangulations n w)
  unfold RetDD at HA
  cases hi : inB n 3 8
  · have hno : ∀ w', Below w.heap.size w w' → RetSS w (qzR n) false (.returned (.tuple #[.slice none 0 0, .bool false])) w' := fun w' hb => by
      rw [qzR_no hi]
      exact ⟨none, 0, [], rfl, OwnSS.nil_, hb⟩
    have Hno := Lib.hid hno
    rw [hi] at HA
    generalize (atR n).length = q at *
    clear hno hi
    go_enter Try.func42, Try.ntmps42
    go_wp2_with fail
    refine HA.out.mono ?_
    rintro e w1 ⟨A1, c1, rs1, rfl, _, hb⟩
    have HE := Lib.hid (Hno.out _ hb)
    clear Hno hb
    go_wp2
    go_ret2
    exact HE.out
  · obtain ⟨n3, n8⟩ := inB_iff'.1 hi
    obtain ⟨m, rfl⟩ := Int.eq_ofNat_of_zero_le (show 0 ≤ n by omega)
    have hat := atR_yes hi
    rw [hat, hi] at HA
    have hq := qzR_yes hi
    rw [hq]
    obtain ⟨K, hK⟩ : ∃ K, (altL m).length = K := ⟨_, rfl⟩
    have hK1 : 1 ≤ K := by rw [← hK]; exact alt_pos ⟨m, by omega⟩ (by simp; omega)
    have hK2 : K ≤ 132 := by rw [← hK]; exact alt_bd ⟨m, by omega⟩
    have hqK : (qzT m).length = K := by rw [qz_len, hK]
    have HqK := Lib.hid hqK
    have HK := Lib.hid hK
    rw [hK] at HA
    obtain ⟨i0', hii, hz0, hz1, hz3⟩ := info_parts infoSl
    have hbytes : i0'.bytes * K ≤ 281474976710656 := by rw [hz3]; omega
    have hmax : K ≤ maxLen := by unfold maxLen; omega
    rw [hqK]
    have hqs : (QS (qzT m) K).length = K := QS_length _ _ (by rw [hqK]; exact Nat.le_refl _)
    have Hqs := Lib.hid hqs
    clear hat hi hq hK hqK hqs
    go_enter Try.func42, Try.ntmps42
    go_wp2_with fail
    refine HA.out.mono ?_
    rintro e w1 ⟨A1, c1, rs1, rfl, ho1, hb1⟩
    have O1 := Lib.hid ho1
    have B1 := Lib.hid hb1
    clear ho1 hb1 HA
    go_wp2_with (at_make; refine wpList_make_full _ rfl _ _ _ rfl w1.heap.size 50 i0' (.slice none 0 0) 1 Try.underlying45 hii hz0 hz1 _ _ _ _ K rfl rfl rfl rfl hbytes hmax (Nat.le_refl _) ?_; intro w3 hown3 hgrow3)
    have hb3 : Below w1.heap.size w1 w3 := (Below.refl _ _).grown hgrow3 (Nat.le_refl _) (fun _ e => by cases e)
    rw [zerosSS] at hown3
    have hO3 := OwnSS.zeros hown3
    rw [← HqK.out, ← qzH_zero m, HqK.out] at hO3
    have HO3 := Lib.hid hO3
    have Hb3 := Lib.hid hb3
    clear hown3 hgrow3 hb3 hO3 hii hz0 hz1 hz3 hbytes hmax
    go_wp2
    go_loopw [7, 8, 21] (fun _ _ k wr => ∃ (t : Nat) (rs : List Value), t ≤ K ∧ k = .int .i64 t ∧ OwnSS wr w1.heap.size (some ⟨w1.heap.size, 0, none⟩) K rs (qzH m t) ∧ Below w1.heap.size w1 wr) (fun _ _ k _ => K - (intOf k).toNat)
    case atStart => exact ⟨0, _, Nat.zero_le _, rfl, HO3.out, Hb3.out⟩
    case round =>
      clear HO3 Hb3
      obtain ⟨t, rs, ht, rfl, ho, hb⟩ := hrel
      have hHl := qzH_length m t (by rw [HqK.out]; exact ht)
      rw [HqK.out] at hHl
      by_cases hlt : t < K
      · have hD := O1.out.kept hb
        obtain ⟨gd, hA1, _, _, hcd⟩ := hD.outer (by rw [HK.out]; omega)
        have hrow := hD.2.2.1 t (by rw [HK.out]; exact hlt)
        obtain ⟨Aj, cj, ej⟩ := own_form hrow
        have x0 := hcd t (by rw [HK.out]; exact hlt)
        rw [ej] at x0 hrow
        subst hA1
        obtain ⟨r5, rtri⟩ := alt_tri (m := m) (by omega) (by omega) (k := t) (by rw [HK.out]; exact hlt)
        have hqr := qz_row (m := m) (k := t) (by rw [HK.out]; exact hlt)
        have hql : quidL (m : Int) (rowD (altL m) t) = quidF m (rowD (altL m) t) := by unfold quidL; rw [if_pos rtri, Int.toNat_natCast]
        have HQ := Lib.hid (impl_QuiddityOf (m : Int) Aj cj wr.heap.size (rowD (altL m) t) wr (SlD.of_own hrow) (Nat.le_refl _) (by omega) (own_cap hrow))
        unfold RetI at HQ
        rw [hql, ← hqr, rtri] at HQ
        have hset := qzH_set m t (by rw [HqK.out]; exact hlt)
        have hlr : (rowOf (qzT m) t).length = m := by rw [hqr]; exact quidF_length _ _
        have i0 : (0 : Int) ≤ (t : Int) := by omega
        have i1 : (t : Int) < (K : Int) := by omega
        have Ho := Lib.hid ho
        have Hb := Lib.hid hb
        have Hset := Lib.hid hset
        have Hlr := Lib.hid hlr
        have HHl := Lib.hid hHl
        clear ho hb hD hrow hcd ej hset hql hqr rtri hlr hHl
        generalize (rowD (altL m) t).length = dl at *
        generalize rowOf (qzT m) t = L at *
        go_wp2_with fail
        refine HQ.out.mono ?_
        rintro e w4 ⟨A4, c4, rfl, ho4, hb4⟩
        have o5 := Ho.out.kept hb4
        have b5 := below_kept Hb.out (Nat.le_refl _) hb4
        have hst := o5.store (t := t) (r := .slice A4 L.length c4) (L := L) (by rw [HHl.out]; exact hlt) (ho4.mono Hb.out.size) (fun j hj _ q hq e => by
          have h1 := (ho4.lt q hq).1
          have h2 := (Ho.out.2.2.1 j hj).lt q e.symm
          omega)
        rw [Hset.out] at hst
        have hcell : ∃ u, w4.cell? ⟨w1.heap.size, t, none⟩ = some u := by
          obtain ⟨g, hg, _, _, hc⟩ := o5.outer (by rw [HHl.out]; omega)
          injection hg with hg1
          injection hg1 with hg2
          subst hg2
          exact ⟨_, hc t (by rw [HHl.out]; exact hlt)⟩
        obtain ⟨u, hcell⟩ := hcell
        have hfro := o5.2.1.frozenAt t
        have S5 := Lib.hid hst.1
        have D5 := Lib.hid (below_grown b5 hst.2 (Nat.le_refl _) (fun j hj => by have h1 : w1.heap.size = j := Option.some.inj hj; omega))
        clear hst o5 b5 ho4 hb4 x0 HQ Ho Hb
        generalize L.length = ll at *
        go_wp2
        go_roundw
        case rel => exact ⟨t + 1, _, by omega, by go_num, S5.out, D5.out⟩
        case measure => simp [intOf]; omega
      · obtain rfl : t = K := by omega
        have hall := qzH_all m
        rw [HqK.out] at hall
        rw [hall] at ho
        obtain ⟨N, rfl⟩ : ∃ N, t = N + 1 := ⟨t - 1, by omega⟩
        have hrows : ∀ j, j < N + 1 → (rowOf (qzT m) j).length = m := fun j hj => by
          have e : rowOf (qzT m) j = (qzT m)[j]'(by rw [HqK.out]; exact hj) := by simp [rowOf, show j < (qzT m).length by rw [HqK.out]; exact hj]
          rw [e]
          exact qzT_rows m _ (List.getElem_mem _)
        have HS := Lib.hid (impl_SortQ w1.heap.size w1.heap.size (N + 1) N m rs (qzT m) wr HqK.out hrows (by omega) (by omega) hb.size ho)
        have Hb := Lib.hid hb
        clear ho hb hall hrows hHl
        go_wp2_with fail
        refine HS.out.mono ?_
        rintro e w5 ⟨rfl, rs', Ls', hp, hs, ho5, hb5⟩
        have hu := qz_unique hp hs
        rw [HqK.out] at hu
        subst hu
        have HE := Lib.hid (show RetSS w (QS (qzT m) (N + 1)) true (.returned (.tuple #[.slice (some ⟨w1.heap.size, 0, none⟩) (N + 1) (N + 1), .bool true])) w5 from
          ⟨_, _, rs', by rw [Hqs.out], ho5.mono B1.out.size, B1.out.trans ((Hb.out.trans hb5).mono B1.out.size)⟩)
        clear hp hs ho5 hb5 HS
        go_wp2
        go_ret2
        exact HE.out

/- SSB -/
/-- a slice's value leads to the values given -/
def Src (w : World) (A : Option Addr) (m c : Nat) (rs2 : List Value) : Prop :=
  rs2.length = m ∧ ((A = none ∧ m = 0 ∧ c = 0) ∨ ∃ g off, A = some ⟨g, off, none⟩ ∧ ∀ j u, rs2[j]? = some u → w.cell? ⟨g, off + j, none⟩ = some u)
section
variable {ops : Array Oper} {rest : List Oper} {o : Oper} {a : Act} {Q : Exit → Act → World → Prop}
theorem wp_appendSS {K : Act → World → Prop} (w : World) (s x : Operand) (ho : o.op = .call { callee := .builtin .append, args := #[s, x], argTypes := #[45, 45] })
    (base : Nat) (v : Value) (n : Nat) (rs : List Value) (hs : a.eval s = v) (hown : w.ownsRow base 50 1 v n rs) (A : Option Addr) (m c : Nat) (rs2 : List Value) (hx : a.eval x = .slice A m c)
    (hr : Src w A m c rs2) (h1 : ∀ u ∈ rs2, u.oneCell' = true) (hlen : n ≤ 1000000) (hlm : m ≤ 1000000) (hbase : base ≤ w.heap.size)
    (h : ∀ A' c' w', w'.ownsRow base 50 1 (.slice A' (n + m) c') (n + m) (rs ++ rs2) → w.grownBy w' v.ownBlock → K (a.put o.dst (.slice A' (n + m) c')) w') :
    o.wp Try.prog a w K Q := by
  obtain ⟨i0, hi, hz0, hz1, hz2⟩ := info_parts infoSl
  have fin : ∀ v' w', w'.ownsRow base 50 1 v' (n + m) (rs ++ rs2) → w.grownBy w' v.ownBlock → K (a.put o.dst v') w' := by
    intro v' w' ho' hg
    obtain ⟨A', c', rfl⟩ := own_form ho'
    exact h A' c' w' ho' hg
  obtain ⟨hl, ⟨rfl, rfl, rfl⟩ | ⟨g, off, rfl, hc⟩⟩ := hr
  · obtain rfl : rs2 = [] := List.eq_nil_of_length_eq_zero hl
    have hrun : (Builtin.append_ #[45, 45] o.type #[v, .slice none 0 0]).run Try.prog w = .ok v w := by
      rcases hown.2 with ⟨rfl, hn⟩ | ⟨g, cap, cur, rfl, _, _, hnc, _⟩
      · simp [Builtin.append_, run_underlying Try.underlying45, sizeOf, typeInfo, hi, Builtin.lenOf, Builtin.firstCells]
      · simp [Builtin.append_, run_underlying Try.underlying45, sizeOf, typeInfo, hi, Builtin.lenOf, Builtin.firstCells, hnc, storeCells]
    unfold Oper.wp execOp
    simp only [ho, resolve, invoke, builtin, Sem.run_bind, Sem.run_pure, Result.andThen_ok, List.map_toArray, List.map_cons, List.map_nil, hs, hx, hrun]
    exact fin v w (by simpa using hown) (World.grownBy.refl w _)
  · exact wp_append_own w s x 45 ho base 50 i0 (.slice none 0 0) 1 24 Try.underlying45 hi hz0 hz1 hz2 rfl (by decide) v n rs hs hown ⟨g, off, none⟩ m c rs2 hx (by rw [hl, Nat.mul_one])
      (fun j u hu => by rw [Addr.add_lit]; exact hc j u hu) h1
      (by unfold maxLen; omega) (by omega) hbase (fun v' w' h3 h4 _ => fin v' w' h3 h4)
theorem wpList_appendSS (w : World) (hgd : o.guard = none) (s x : Operand) (ho : o.op = .call { callee := .builtin .append, args := #[s, x], argTypes := #[45, 45] })
    (base : Nat) (v : Value) (n : Nat) (rs : List Value) (hs : a.eval s = v) (hown : w.ownsRow base 50 1 v n rs) (A : Option Addr) (m c : Nat) (rs2 : List Value) (hx : a.eval x = .slice A m c)
    (hr : Src w A m c rs2) (h1 : ∀ u ∈ rs2, u.oneCell' = true) (hlen : n ≤ 1000000) (hlm : m ≤ 1000000) (hbase : base ≤ w.heap.size)
    (h : ∀ A' c' w', w'.ownsRow base 50 1 (.slice A' (n + m) c') (n + m) (rs ++ rs2) → w.grownBy w' v.ownBlock → wpList Try.prog ops Q rest (a.put o.dst (.slice A' (n + m) c')) w') :
    wpList Try.prog ops Q (o :: rest) a w :=
  wpList_plain hgd fun _ hK => wp_appendSS w s x ho base v n rs hs hown A m c rs2 hx hr h1 hlen hlm hbase fun A' c' w' h1 h2 => hK _ _ (h A' c' w' h1 h2)
end
section
variable {w w' : World} {base : Nat} {A A3 : Option Addr} {c c3 : Nat} {rs : List Value} {Ls : List (List Int)}
theorem OwnSS.oneC (h : OwnSS w base A c rs Ls) : ∀ u ∈ rs, u.oneCell' = true := fun u hu => by
  obtain ⟨j, hj, rfl⟩ := List.getElem_of_mem hu
  have := h.2.2.1 j (by rw [← h.1]; exact hj)
  obtain ⟨A', c', e⟩ := own_form this
  have e2 : rs[j] = rvOf rs j := by unfold rvOf; simp [hj]
  rw [e2, e]
  rfl
/-- a row's value put between, in a new outer row -/
theorem OwnSS.ins {r : Value} {L : List Int} (p : Nat) (hp : p ≤ Ls.length) (h : OwnSS w base A c rs Ls) (hr : w.ownsRow base 3 1 r L.length (ics L))
    (hd : ∀ j, j < Ls.length → ∀ k, r.ownBlock = some k → some k ≠ (rvOf rs j).ownBlock)
    (ho : w.ownsRow base 50 1 (.slice A3 (Ls.length + 1) c3) (Ls.length + 1) (rs.take p ++ r :: rs.drop p)) :
    OwnSS w base A3 c3 (rs.take p ++ r :: rs.drop p) (Ls.take p ++ L :: Ls.drop p) := by
  have hl : (Ls.take p ++ L :: Ls.drop p).length = Ls.length + 1 := by simp; omega
  have hrl := h.1
  have erv : ∀ j, rvOf (rs.take p ++ r :: rs.drop p) j = if j < p then rvOf rs j else if j = p then r else rvOf rs (j - 1) := fun j => by
    unfold rvOf
    simp only [List.getD_eq_getElem?_getD]
    by_cases h1 : j < p
    · rw [if_pos h1, List.getElem?_append_left (by simp; omega), List.getElem?_take_of_lt h1]
    · rw [if_neg h1, List.getElem?_append_right (by simp; omega), List.length_take, Nat.min_eq_left (by omega)]
      by_cases h2 : j = p
      · subst h2; simp
      · rw [if_neg h2, show j - p = (j - 1 - p) + 1 by omega, List.getElem?_cons_succ, List.getElem?_drop, show p + (j - 1 - p) = j - 1 by omega]
  have erw : ∀ j, rowOf (Ls.take p ++ L :: Ls.drop p) j = if j < p then rowOf Ls j else if j = p then L else rowOf Ls (j - 1) := fun j => by
    unfold rowOf
    simp only [List.getD_eq_getElem?_getD]
    by_cases h1 : j < p
    · rw [if_pos h1, List.getElem?_append_left (by simp; omega), List.getElem?_take_of_lt h1]
    · rw [if_neg h1, List.getElem?_append_right (by simp; omega), List.length_take, Nat.min_eq_left (by omega)]
      by_cases h2 : j = p
      · subst h2; simp
      · rw [if_neg h2, show j - p = (j - 1 - p) + 1 by omega, List.getElem?_cons_succ, List.getElem?_drop, show p + (j - 1 - p) = j - 1 by omega]
  refine ⟨by simp [hrl], by rw [hl]; exact ho, fun j hj => ?_, fun i j hi hj hij k hk => ?_⟩
  · rw [hl] at hj
    rw [erv, erw]
    by_cases h1 : j < p
    · rw [if_pos h1, if_pos h1]; exact h.2.2.1 j (by omega)
    · rw [if_neg h1, if_neg h1]
      by_cases h2 : j = p
      · rw [if_pos h2, if_pos h2]; exact hr
      · rw [if_neg h2, if_neg h2]; exact h.2.2.1 (j - 1) (by omega)
  · rw [hl] at hi hj
    rw [erv] at hk ⊢
    have key : ∀ a, a < Ls.length → ∀ k, (rvOf rs a).ownBlock = some k → some k ≠ r.ownBlock := fun a ha k hk e => hd a ha k e.symm hk.symm
    by_cases a1 : i < p
    · rw [if_pos a1] at hk
      by_cases b1 : j < p
      · rw [if_pos b1]; exact h.2.2.2 i j (by omega) (by omega) hij k hk
      · rw [if_neg b1]
        by_cases b2 : j = p
        · rw [if_pos b2]; exact key i (by omega) k hk
        · rw [if_neg b2]; exact h.2.2.2 i (j - 1) (by omega) (by omega) (by omega) k hk
    · rw [if_neg a1] at hk
      by_cases a2 : i = p
      · rw [if_pos a2] at hk
        by_cases b1 : j < p
        · rw [if_pos b1]; exact hd j (by omega) k hk
        · rw [if_neg b1, if_neg (by omega)]; exact hd (j - 1) (by omega) k hk
      · rw [if_neg a2] at hk
        by_cases b1 : j < p
        · rw [if_pos b1]; exact h.2.2.2 (i - 1) j (by omega) (by omega) (by omega) k hk
        · rw [if_neg b1]
          by_cases b2 : j = p
          · rw [if_pos b2]; exact key (i - 1) (by omega) k hk
          · rw [if_neg b2]; exact h.2.2.2 (i - 1) (j - 1) (by omega) (by omega) (by omega) k hk
end

/- QzQ -/
theorem OwnSS.farN {w w' : World} {base : Nat} {A : Option Addr} {c : Nat} {rs : List Value} {Ls : List (List Int)} {row : Option Nat} (N : Nat) (h : OwnSS w base A c rs Ls) (hN : (∀ q, (Value.slice A Ls.length c).ownBlock = some q → q < N) ∧ ∀ j, j < Ls.length → ∀ q, (rvOf rs j).ownBlock = some q → q < N)
    (hg : w.grownBy w' row) (hr : ∀ k, row = some k → N ≤ k) : OwnSS w' base A c rs Ls :=
  ⟨h.1, own_far h.2.1 hg (fun q hq e => by have := hN.1 q hq; have := hr q e.symm; omega), fun j hj => own_far (h.2.2.1 j hj) hg (fun q hq e => by have := hN.2 j hj q hq; have := hr q e.symm; omega), h.2.2.2⟩
theorem OwnSS.bd {w : World} {base : Nat} {A : Option Addr} {c : Nat} {rs : List Value} {Ls : List (List Int)} (h : OwnSS w base A c rs Ls) : (∀ q, (Value.slice A Ls.length c).ownBlock = some q → q < w.heap.size) ∧ ∀ j, j < Ls.length → ∀ q, (rvOf rs j).ownBlock = some q → q < w.heap.size :=
  ⟨fun q hq => (h.2.1.lt q hq).2, fun j hj q hq => ((h.2.2.1 j hj).lt q hq).2⟩
theorem src_take {w : World} {base : Nat} {g c : Nat} {rs : List Value} {Ls : List (List Int)} (h : OwnSS w base (some ⟨g, 0, none⟩) c rs Ls) (p : Nat) (hp : p ≤ Ls.length) (c' : Nat) : Src w (some ⟨g, 0, none⟩) p c' (rs.take p) := by
  have hl := h.1
  refine ⟨by simp; omega, .inr ⟨g, 0, rfl, fun j u hu => ?_⟩⟩
  have hj : j < p := by
    have := (List.getElem?_eq_some_iff.1 hu).1
    simp at this; omega
  rw [List.getElem?_take_of_lt hj] at hu
  rw [Nat.zero_add]
  exact (h.2.1.cellAt j (by omega)).trans hu
theorem src_drop {w : World} {base : Nat} {g c : Nat} {rs : List Value} {Ls : List (List Int)} (h : OwnSS w base (some ⟨g, 0, none⟩) c rs Ls) (p : Nat) (hp : p ≤ Ls.length) (c' : Nat) : Src w (some ⟨g, p, none⟩) (Ls.length - p) c' (rs.drop p) := by
  have hl := h.1
  refine ⟨by simp; omega, .inr ⟨g, p, rfl, fun j u hu => ?_⟩⟩
  rw [List.getElem?_drop] at hu
  have hj : p + j < Ls.length := by
    have := (List.getElem?_eq_some_iff.1 hu).1
    omega
  exact (h.2.1.cellAt (p + j) (by omega)).trans hu
theorem src_dropI {w : World} {base : Nat} {g c : Nat} {rs : List Value} {Ls : List (List Int)} (h : OwnSS w base (some ⟨g, 0, none⟩) c rs Ls) (p : Nat) (hp : p ≤ Ls.length) (hc : Ls.length ≤ c) (c' : Nat) : Src w (if c = p then some ⟨g, 0, none⟩ else some ⟨g, p, none⟩) (Ls.length - p) c' (rs.drop p) := by
  by_cases e : c = p
  · rw [if_pos e]
    have hl := h.1
    refine ⟨by simp; omega, .inr ⟨g, 0, rfl, fun j u hu => ?_⟩⟩
    rw [List.drop_of_length_le (by omega)] at hu
    simp at hu
  · rw [if_neg e]; exact src_drop h p hp c'
theorem own_emptySS (w : World) : (w.alloc (.cells #[] 50)).ownsRow w.heap.size 50 1 (.slice (some ⟨w.heap.size, 0, none⟩) 0 0) 0 [] := ⟨rfl, .inr ⟨w.heap.size, 0, #[], rfl, Nat.le_refl _, heap_alloc_new w _, Nat.le_refl _, by decide, rfl, rfl⟩⟩
set_option maxRecDepth 100000 in
set_option maxHeartbeats 3200000 in
theorem spec_caQuiddities (m : Nat) (w : World) (m3 : 3 ≤ m) (m8 : m ≤ 8) : Calls Try.prog 81 #[.int .i64 m] w fun e w' => ∃ A c rs, e = .returned (.slice A (qzT m).length c) ∧ OwnSS w' w.heap.size A c rs (QS (qzT m) (qzT m).length) ∧ Below w.heap.size w w' := by
  have HA := Lib.hid (spec_poAll m w m3 m8)
  unfold GivDD at HA
  obtain ⟨K, hK⟩ : ∃ K, (altL m).length = K := ⟨_, rfl⟩
  have hK2 : K ≤ 132 := by rw [← hK]; exact alt_bd ⟨m, by omega⟩
  have hqK : (qzT m).length = K := by rw [qz_len, hK]
  have HqK := Lib.hid hqK
  have HK := Lib.hid hK
  rw [hK] at HA
  rw [hqK]
  clear hK hqK
  go_enter Try.func81, Try.ntmps81
  go_wp2_with fail
  refine HA.out.mono ?_
  rintro e w1 ⟨A1, c1, rs1, rfl, ho1, hb1⟩
  have O1 := Lib.hid ho1
  have B1 := Lib.hid hb1
  clear ho1 hb1 HA
  go_wp2
  go_loopw [3, 5, 6, 7, 8, 12] (fun S _ _ _ _ i wr => ∃ (k : Nat) (A : Option Addr) (c : Nat) (rs : List Value), k ≤ K ∧ i = .int .i64 k ∧ S = .slice A k c ∧ (k = 0 → A = none ∧ c = 0) ∧ OwnSS wr w1.heap.size A c rs (QS (qzT m) k) ∧ Below w1.heap.size w1 wr) (fun _ _ _ _ _ i _ => K - (intOf i).toNat)
  case atStart => exact ⟨0, none, 0, [], Nat.zero_le _, rfl, rfl, fun _ => ⟨rfl, rfl⟩, OwnSS.nil_, Below.refl _ _⟩
  case round =>
    obtain ⟨W0, hW0⟩ : ∃ W0, W0 = wr := ⟨_, rfl⟩
    subst hW0
    obtain ⟨k, A, c, rs, hk, rfl, rfl, hnil, ho, hb⟩ := hrel
    have hQl := QS_length (qzT m) k (by rw [HqK.out]; exact hk)
    by_cases hlt : k < K
    · have hD := O1.out.kept hb
      obtain ⟨gd, hA1, _, _, hcd⟩ := hD.outer (by rw [HK.out]; omega)
      have hrow := hD.2.2.1 k (by rw [HK.out]; exact hlt)
      obtain ⟨Aj, cj, ej⟩ := own_form hrow
      have x0 := hcd k (by rw [HK.out]; exact hlt)
      rw [ej] at x0 hrow
      subst hA1
      obtain ⟨r5, rtri⟩ := alt_tri (m := m) m3 m8 (k := k) (by rw [HK.out]; exact hlt)
      have hqr := qz_row (m := m) (k := k) (by rw [HK.out]; exact hlt)
      have HQ := Lib.hid (spec_poQuiddity (m : Int) Aj cj W0.heap.size (rowD (altL m) k) W0 (SlD.of_own hrow) (Nat.le_refl _) rtri)
      unfold GivI at HQ
      rw [Int.toNat_natCast, ← hqr] at HQ
      have hlr : (rowOf (qzT m) k).length = m := by rw [hqr]; exact quidF_length _ _
      have hins : QS (qzT m) (k + 1) = insI (rowOf (qzT m) k) (QS (qzT m) k) := rfl
      have hSr := QS_rows (qzT_rows m) k (by rw [HqK.out]; exact hk)
      have i0 : (0 : Int) ≤ (k : Int) := by omega
      have i1 : (k : Int) < (K : Int) := by omega
      have Hb01 := Lib.hid hb.size
      have Ho := Lib.hid ho
      have Hb := Lib.hid hb
      have Hins := Lib.hid hins
      have Hlr := Lib.hid hlr
      have HQl := Lib.hid hQl
      have HSr := Lib.hid hSr
      clear ho hb hD hrow hcd ej hqr rtri hlr hQl hins hSr
      generalize (rowD (altL m) k).length = dl at *
      generalize rowOf (qzT m) k = L at *
      generalize QS (qzT m) k = S at *
      rw [Hlr.out] at HQ
      go_wp2_with fail
      refine HQ.out.mono ?_
      rintro e w4 ⟨A4, c4, rfl, ho4, hb4⟩
      have o5 := Lib.hid (Ho.out.kept hb4)
      have b5 := Lib.hid (below_kept Hb.out (Nat.le_refl _) hb4)
      have O4 := Lib.hid ho4
      have Hb4 := Lib.hid hb4.size
      have B4 := Lib.hid b5.out.size
      clear ho4 hb4 x0 HQ
      go_wp2
      go_loopw [7] (fun a wq => ∃ p : Nat, p ≤ k ∧ a = .int .i64 p ∧ posI L S p = posI L S k ∧ Below w4.heap.size w4 wq) (fun a _ => (intOf a).toNat)
      case atStart => exact ⟨k, Nat.le_refl _, rfl, rfl, Below.refl _ _⟩
      case round =>
        obtain ⟨p, hp, rfl, hpos, hbq⟩ := hrel
        cases p with
        | zero =>
          by_cases k0 : k = 0
          · obtain ⟨rfl, rfl⟩ := hnil k0
            subst k0
            have o6 := o5.out.kept hbq
            have hN := o6.bd
            have h1c := o6.oneC
            have hrl := o6.1
            have q6 := own_kept O4.out hbq
            have hqb : ∀ q, (Value.slice A4 m c4).ownBlock = some q → W0.heap.size ≤ q ∧ q < wr.heap.size := fun q hq => q6.lt q hq
            rw [HQl.out] at hrl
            have h16 : w1.heap.size ≤ wr.heap.size := Nat.le_trans b5.out.size hbq.size
            have O6 := Lib.hid o6
            have HN := Lib.hid hN
            have H1 := Lib.hid h1c
            have Q6 := Lib.hid q6
            have Hqb := Lib.hid hqb
            have Hrl := Lib.hid hrl
            have O7 := Lib.hid (o6.alloc (.cells #[] 50))
            have HL0 := Lib.hid (Ho.out.bd.2)
            have D6 := Lib.hid (below_kept b5.out (Nat.le_refl _) hbq)
            have Hpp := Lib.hid hpos
            clear o6 hN h1c q6 hqb hrl hbq hpos
            go_wp2_with (first
              | (at_builtin; refine wpList_appendSS _ rfl _ _ rfl wr.heap.size (.slice (some ⟨wr.heap.size, 0, none⟩) 0 0) 0 [] rfl (own_emptySS wr) none 0 0 (rs.take 0) rfl ⟨by simp, .inl ⟨rfl, rfl, rfl⟩⟩ (fun u hu => H1.out u (List.mem_of_mem_take hu)) (by omega) (by omega) (by simp) ?_
                 intro A8 c8 w8 own8 hg8
                 rw [Nat.zero_add, List.nil_append] at own8
                 have O8 := Lib.hid (O6.out.far2 hg8)
                 have Q8 := Lib.hid (own_far (Q6.out.alloc (.cells #[] 50)) hg8 (fun q hq e => by have := (Hqb.out q hq).2; have h2 : q = wr.heap.size := Option.some.inj e; omega))
                 have D8 := Lib.hid (below_grown (D6.out.alloc h16 (.cells #[] 50)) hg8 (Nat.le_refl _) (fun j hj => by have h1 : wr.heap.size = j := Option.some.inj hj; omega))
                 have z8 : wr.heap.size ≤ w8.heap.size := by have := hg8.size; simp at this; omega
                 have l8 := Lib.hid own8.lt
                 clear hg8)
              | (at_builtin; refine append1SS _ rfl _ _ rfl wr.heap.size (.slice A8 0 c8) 0 (rs.take 0) rfl (own8.alloc _) w8.heap.size (.slice A4 m c4) rfl rfl (by simp [go_sem]) (by omega) (by simp; omega) ?_
                 intro A9 c9 w9 own9 hg9
                 have O9 := Lib.hid ((O8.out.alloc (.cells #[.slice A4 m c4] 50)).farN wr.heap.size HN.out hg9 (fun j hj => (l8.out j hj).1))
                 have Q9 := Lib.hid (own_far (Q8.out.alloc (.cells #[.slice A4 m c4] 50)) hg9 (fun q hq e => by have := (Hqb.out q hq).2; have h2 := (l8.out q e.symm).1; omega))
                 have D9 := Lib.hid (below_grown (D8.out.alloc (Nat.le_trans h16 z8) (.cells #[.slice A4 m c4] 50)) hg9 (Nat.le_refl _) (fun j hj => Nat.le_trans h16 (l8.out j hj).1))
                 have z9 : wr.heap.size ≤ w9.heap.size := by have := hg9.size; simp at this; omega
                 have l9 := Lib.hid own9.lt
                 clear hg9 own8)
              | (at_builtin; refine wpList_appendSS _ rfl _ _ rfl wr.heap.size (.slice A9 1 c9) 1 (rs.take 0 ++ [.slice A4 m c4]) rfl own9 none 0 0 (rs.drop 0) rfl ⟨by simp [Hrl.out], .inl ⟨rfl, rfl, rfl⟩⟩ (fun u hu => H1.out u (List.mem_of_mem_drop hu)) (by omega) (by omega) z9 ?_
                 intro A10 c10 w10 own10 hg10
                 have O10 := Lib.hid (O9.out.farN wr.heap.size HN.out hg10 (fun j hj => (l9.out j hj).1))
                 have Q10 := Lib.hid (own_far Q9.out hg10 (fun q hq e => by have := (Hqb.out q hq).2; have h2 := (l9.out q e.symm).1; omega))
                 have D10 := Lib.hid (below_grown D9.out hg10 (Nat.le_refl _) (fun j hj => Nat.le_trans h16 (l9.out j hj).1))
                 clear hg10 own9))
            have e10 : 1 + 0 = S.length + 1 := by have := HQl.out; omega
            rw [e10] at own10
            rw [List.append_assoc, List.singleton_append] at own10
            have hfin := O10.out.ins (A3 := A10) (c3 := c10) (r := .slice A4 m c4) (L := L) 0 (Nat.zero_le _) (by rw [Hlr.out]; exact Q10.out.mono Hb01.out) (fun j hj q hq e => by
              have h1 := (Hqb.out q hq).1
              have h2 := HL0.out j hj q e.symm
              omega) (own10.mono h16)
            have hI : insI L S = S.take 0 ++ L :: S.drop 0 := by unfold insI; rw [HQl.out, ← Hpp.out]; rfl
            rw [← hI, ← Hins.out] at hfin
            have HF := Lib.hid hfin
            clear hfin hI own10 e10
            go_wp2
            go_roundw
            case rel => exact ⟨0 + 1, A10, c10, _, by omega, by go_num, by first | rfl | (congr 1; omega) | (congr 1), fun h => by omega, HF.out, D10.out⟩
            case measure => simp [intOf] <;> omega
          · obtain ⟨g, hg, _, _, _⟩ := o5.out.outer (by rw [HQl.out]; omega)
            subst hg
            have o6 := o5.out.kept hbq
            have hN := o6.bd
            have h1c := o6.oneC
            have hrl := o6.1
            have q6 := own_kept O4.out hbq
            have hqb : ∀ q, (Value.slice A4 m c4).ownBlock = some q → W0.heap.size ≤ q ∧ q < wr.heap.size := fun q hq => q6.lt q hq
            rw [HQl.out] at hrl
            have h16 : w1.heap.size ≤ wr.heap.size := Nat.le_trans b5.out.size hbq.size
            have O6 := Lib.hid o6
            have HN := Lib.hid hN
            have H1 := Lib.hid h1c
            have Q6 := Lib.hid q6
            have Hqb := Lib.hid hqb
            have Hrl := Lib.hid hrl
            have O7 := Lib.hid (o6.alloc (.cells #[] 50))
            have HL0 := Lib.hid (Ho.out.bd.2)
            have D6 := Lib.hid (below_kept b5.out (Nat.le_refl _) hbq)
            have Hpp := Lib.hid hpos
            clear o6 hN h1c q6 hqb hrl hbq hpos
            go_wp2_with (first
              | (at_builtin; refine wpList_appendSS _ rfl _ _ rfl wr.heap.size (.slice (some ⟨wr.heap.size, 0, none⟩) 0 0) 0 [] rfl (own_emptySS wr) (some ⟨g, 0, none⟩) 0 c (rs.take 0) rfl (src_take O7.out 0 (Nat.zero_le _) c) (fun u hu => H1.out u (List.mem_of_mem_take hu)) (by omega) (by omega) (by simp) ?_
                 intro A8 c8 w8 own8 hg8
                 rw [Nat.zero_add, List.nil_append] at own8
                 have O8 := Lib.hid (O6.out.far2 hg8)
                 have Q8 := Lib.hid (own_far (Q6.out.alloc (.cells #[] 50)) hg8 (fun q hq e => by have := (Hqb.out q hq).2; have h2 : q = wr.heap.size := Option.some.inj e; omega))
                 have D8 := Lib.hid (below_grown (D6.out.alloc h16 (.cells #[] 50)) hg8 (Nat.le_refl _) (fun j hj => by have h1 : wr.heap.size = j := Option.some.inj hj; omega))
                 have z8 : wr.heap.size ≤ w8.heap.size := by have := hg8.size; simp at this; omega
                 have l8 := Lib.hid own8.lt
                 clear hg8)
              | (at_builtin; refine append1SS _ rfl _ _ rfl wr.heap.size (.slice A8 0 c8) 0 (rs.take 0) rfl (own8.alloc _) w8.heap.size (.slice A4 m c4) rfl rfl (by simp [go_sem]) (by omega) (by simp; omega) ?_
                 intro A9 c9 w9 own9 hg9
                 have O9 := Lib.hid ((O8.out.alloc (.cells #[.slice A4 m c4] 50)).farN wr.heap.size HN.out hg9 (fun j hj => (l8.out j hj).1))
                 have Q9 := Lib.hid (own_far (Q8.out.alloc (.cells #[.slice A4 m c4] 50)) hg9 (fun q hq e => by have := (Hqb.out q hq).2; have h2 := (l8.out q e.symm).1; omega))
                 have D9 := Lib.hid (below_grown (D8.out.alloc (Nat.le_trans h16 z8) (.cells #[.slice A4 m c4] 50)) hg9 (Nat.le_refl _) (fun j hj => Nat.le_trans h16 (l8.out j hj).1))
                 have z9 : wr.heap.size ≤ w9.heap.size := by have := hg9.size; simp at this; omega
                 have l9 := Lib.hid own9.lt
                 clear hg9 own8)
              | (at_builtin; refine wpList_appendSS _ rfl _ _ rfl wr.heap.size (.slice A9 1 c9) 1 (rs.take 0 ++ [.slice A4 m c4]) rfl own9 (some ⟨g, 0, none⟩) k c (rs.drop 0) rfl (by have := src_drop O9.out 0 (Nat.zero_le _) c; rw [HQl.out, Nat.sub_zero] at this; exact this) (fun u hu => H1.out u (List.mem_of_mem_drop hu)) (by omega) (by omega) z9 ?_
                 intro A10 c10 w10 own10 hg10
                 have O10 := Lib.hid (O9.out.farN wr.heap.size HN.out hg10 (fun j hj => (l9.out j hj).1))
                 have Q10 := Lib.hid (own_far Q9.out hg10 (fun q hq e => by have := (Hqb.out q hq).2; have h2 := (l9.out q e.symm).1; omega))
                 have D10 := Lib.hid (below_grown D9.out hg10 (Nat.le_refl _) (fun j hj => Nat.le_trans h16 (l9.out j hj).1))
                 clear hg10 own9))
            have e10 : 1 + k = S.length + 1 := by have := HQl.out; omega
            rw [e10] at own10
            rw [List.append_assoc, List.singleton_append] at own10
            have hfin := O10.out.ins (A3 := A10) (c3 := c10) (r := .slice A4 m c4) (L := L) 0 (Nat.zero_le _) (by rw [Hlr.out]; exact Q10.out.mono Hb01.out) (fun j hj q hq e => by
              have h1 := (Hqb.out q hq).1
              have h2 := HL0.out j hj q e.symm
              omega) (own10.mono h16)
            have hI : insI L S = S.take 0 ++ L :: S.drop 0 := by unfold insI; rw [HQl.out, ← Hpp.out]; rfl
            rw [← hI, ← Hins.out] at hfin
            have HF := Lib.hid hfin
            clear hfin hI own10 e10
            go_wp2
            go_roundw
            case rel => exact ⟨k + 1, A10, c10, _, by omega, by go_num, by first | rfl | (congr 1; omega) | (congr 1), fun h => by omega, HF.out, D10.out⟩
            case measure => simp [intOf] <;> omega
        | succ p =>
          obtain ⟨g, hg, _, _, hcg⟩ := (o5.out.kept hbq).outer (by rw [HQl.out]; omega)
          subst hg
          have y0 := hcg p (by rw [HQl.out]; omega)
          have hrow := (o5.out.kept hbq).2.2.1 p (by rw [HQl.out]; omega)
          obtain ⟨Ap, cp, ep⟩ := own_form hrow
          have hSl : (rowOf S p).length = m := HSr.out _ (by
            have e : rowOf S p = S[p]'(by rw [HQl.out]; omega) := by simp [rowOf, show p < S.length by rw [HQl.out]; omega]
            rw [e]; exact List.getElem_mem _)
          rw [ep] at y0 hrow
          rw [hSl] at y0 hrow
          have q4 := own_kept O4.out hbq
          have HC := Lib.hid (spec_caListBefore A4 Ap c4 cp wr.heap.size wr.heap.size m L (rowOf S p) wr Hlr.out hSl (by have := SlI.of_own q4; exact this) (by have := SlI.of_own hrow; exact this) (Nat.le_refl _) (Nat.le_refl _) (by omega))
          clear hcg ep hrow q4
          go_wp2_with fail
          refine HC.out.mono ?_
          rintro e w6 ⟨rfl, hb6⟩
          have b6 := Lib.hid (below_kept hbq (Nat.le_refl _) hb6)
          cases hlx : ltI L (rowOf S p)
          · have hpp : posI L S k = p + 1 := by rw [← hpos]; show (if ltI L (rowOf S p) = true then posI L S p else p + 1) = p + 1; rw [hlx]; rfl
            have Hpp := Lib.hid hpp
            clear hpp hlx hb6 hbq hpos HC
            have j0 : (0 : Int) ≤ (p : Int) + 1 := by omega
            have o6 := o5.out.kept b6.out
            have hcap := own_capI o6.2.1
            rw [HQl.out] at hcap
            have hN := o6.bd
            have h1c := o6.oneC
            have hrl := o6.1
            have q6 := own_kept O4.out b6.out
            have hqb : ∀ q, (Value.slice A4 m c4).ownBlock = some q → W0.heap.size ≤ q ∧ q < w6.heap.size := fun q hq => q6.lt q hq
            rw [HQl.out] at hrl
            have hW06 : W0.heap.size ≤ w6.heap.size := Nat.le_trans Hb4.out b6.out.size
            have h16 : w1.heap.size ≤ w6.heap.size := Nat.le_trans b5.out.size b6.out.size
            have O6 := Lib.hid o6
            have HN := Lib.hid hN
            have H1 := Lib.hid h1c
            have Q6 := Lib.hid q6
            have Hqb := Lib.hid hqb
            have Hrl := Lib.hid hrl
            have O7 := Lib.hid (o6.alloc (.cells #[] 50))
            have j1 : (p : Int) + 1 ≤ (c : Int) := by omega
            have j2 : (p : Int) + 1 ≤ (k : Int) := by omega
            clear o6 hN h1c q6 hqb hrl y0
            have HL0 := Lib.hid (Ho.out.bd.2)
            have D6 := Lib.hid (below_kept b5.out (Nat.le_refl _) b6.out)
            go_wp2_with (first
              | (at_builtin; refine wpList_appendSS _ rfl _ _ rfl w6.heap.size (.slice (some ⟨w6.heap.size, 0, none⟩) 0 0) 0 [] rfl (own_emptySS w6) (some ⟨g, 0, none⟩) (p + 1) c (rs.take (p + 1)) rfl (src_take O7.out (p + 1) (by rw [HQl.out]; omega) c) (fun u hu => H1.out u (List.mem_of_mem_take hu)) (by omega) (by omega) (by simp) ?_
                 intro A8 c8 w8 own8 hg8
                 rw [Nat.zero_add, List.nil_append] at own8
                 have O8 := Lib.hid (O6.out.far2 hg8)
                 have Q8 := Lib.hid (own_far (Q6.out.alloc (.cells #[] 50)) hg8 (fun q hq e => by have := (Hqb.out q hq).2; have h2 : q = w6.heap.size := Option.some.inj e; omega))
                 have D8 := Lib.hid (below_grown (D6.out.alloc h16 (.cells #[] 50)) hg8 (Nat.le_refl _) (fun j hj => by have h1 : w6.heap.size = j := Option.some.inj hj; omega))
                 have z8 : w6.heap.size ≤ w8.heap.size := by have := hg8.size; simp at this; omega
                 have l8 := Lib.hid own8.lt
                 clear hg8)
              | (at_builtin; refine append1SS _ rfl _ _ rfl w6.heap.size (.slice A8 (p + 1) c8) (p + 1) (rs.take (p + 1)) rfl (own8.alloc _) w8.heap.size (.slice A4 m c4) rfl rfl (by simp [go_sem]) (by omega) (by simp; omega) ?_
                 intro A9 c9 w9 own9 hg9
                 have O9 := Lib.hid ((O8.out.alloc (.cells #[.slice A4 m c4] 50)).farN w6.heap.size HN.out hg9 (fun j hj => (l8.out j hj).1))
                 have Q9 := Lib.hid (own_far (Q8.out.alloc (.cells #[.slice A4 m c4] 50)) hg9 (fun q hq e => by have := (Hqb.out q hq).2; have h2 := (l8.out q e.symm).1; omega))
                 have D9 := Lib.hid (below_grown (D8.out.alloc (Nat.le_trans h16 z8) (.cells #[.slice A4 m c4] 50)) hg9 (Nat.le_refl _) (fun j hj => Nat.le_trans h16 (l8.out j hj).1))
                 have z9 : w6.heap.size ≤ w9.heap.size := by have := hg9.size; simp at this; omega
                 have l9 := Lib.hid own9.lt
                 clear hg9 own8)
              | (at_builtin; refine wpList_appendSS _ rfl _ _ rfl w6.heap.size (.slice A9 (p + 1 + 1) c9) (p + 1 + 1) (rs.take (p + 1) ++ [.slice A4 m c4]) rfl own9 (if c = p + 1 then some ⟨g, 0, none⟩ else some ⟨g, p + 1, none⟩) (k - (p + 1)) (c - (p + 1)) (rs.drop (p + 1)) rfl (by have := src_dropI O9.out (p + 1) (by rw [HQl.out]; omega) (by rw [HQl.out]; exact hcap) (c - (p + 1)); rw [HQl.out] at this; exact this) (fun u hu => H1.out u (List.mem_of_mem_drop hu)) (by omega) (by omega) z9 ?_
                 intro A10 c10 w10 own10 hg10
                 have O10 := Lib.hid (O9.out.farN w6.heap.size HN.out hg10 (fun j hj => (l9.out j hj).1))
                 have Q10 := Lib.hid (own_far Q9.out hg10 (fun q hq e => by have := (Hqb.out q hq).2; have h2 := (l9.out q e.symm).1; omega))
                 have D10 := Lib.hid (below_grown D9.out hg10 (Nat.le_refl _) (fun j hj => Nat.le_trans h16 (l9.out j hj).1))
                 clear hg10 own9))
            have e10 : p + 1 + 1 + (k - (p + 1)) = k + 1 := by omega
            rw [e10] at own10
            rw [List.append_assoc, List.singleton_append] at own10
            have hfin := O10.out.ins (A3 := A10) (c3 := c10) (r := .slice A4 m c4) (L := L) (p + 1) (by rw [HQl.out]; omega) (by rw [Hlr.out]; exact Q10.out.mono Hb01.out) (fun j hj q hq e => by
              have h1 := (Hqb.out q hq).1
              have h2 := HL0.out j hj q e.symm
              omega) (by rw [HQl.out]; exact own10.mono h16)
            have hI : insI L S = S.take (p + 1) ++ L :: S.drop (p + 1) := by unfold insI; rw [HQl.out, Hpp.out]
            rw [← hI, ← Hins.out] at hfin
            have HF := Lib.hid hfin
            clear hfin hI own10 e10
            go_wp2
            go_roundw
            case rel => exact ⟨k + 1, A10, c10, _, by omega, by go_num, by first | rfl | (congr 1; omega) | (congr 1), fun h => by omega, HF.out, D10.out⟩
            case measure => simp [intOf] <;> omega
          · have hpp : posI L S p = posI L S k := by rw [← hpos]; show posI L S p = (if ltI L (rowOf S p) = true then posI L S p else p + 1); rw [if_pos hlx]
            have Hpp := Lib.hid hpp
            clear hpp hlx hb6 hbq hpos HC
            go_wp2
            go_roundw
            case rel => exact ⟨p, by omega, by go_num, Hpp.out, b6.out⟩
            case measure => simp [intOf] <;> omega
    · obtain rfl : k = K := by omega
      have HE := Lib.hid (show ∃ A' c' rs', (Ending.returned (.slice A k c)) = .returned (.slice A' k c') ∧ OwnSS W0 w.heap.size A' c' rs' (QS (qzT m) k) ∧ Below w.heap.size w W0 from ⟨A, c, rs, rfl, ho.mono B1.out.size, B1.out.trans (hb.mono B1.out.size)⟩)
      clear ho hb hnil
      go_wp2
      go_ret
      exact HE.out

/- AllQuidditiesC -/
set_option maxHeartbeats 3200000 in
theorem WAllQuiddities.core (w : World) (a0 : Int)
    (L : List (List Int)) (ok : Bool) (hL : L.length ≤ 1000000) (hLr : ∀ j, j < L.length → (rowOf L j).length ≤ 1000000) (hLp : pre L L.length ≤ 1000000) (hs : Hid (∀ (w : World), Calls Try.prog 41 #[.int .i64 a0] w (RetSS w L ok)))
    (hi : Hid (∀ (w : World), Calls Try.prog 42 #[.int .i64 a0] w (RetSS w L ok))) :
    Calls Try.prog 12 #[.int .i64 a0] w fun e w' => e = .returned (.bool true) ∧ Below w.heap.size w w' := by
  have HLr := Lib.hid hLr
  have HLp := Lib.hid hLp
  clear hLr hLp
  have hd := Below.refl w.heap.size w
  go_enter Try.func12, Try.ntmps12
  go_wp2_with fail
  refine (hs.out _).mono ?_
  rintro e whW ⟨AhW, chW, rshW, rfl, hW, hb⟩
  replace hd := below_kept hd (Nat.le_refl _) hb
  clear hb
  have sW := Lib.hid hW.sl
  have hdW := Below.refl whW.heap.size whW
  clear hW
  go_wp2_with fail
  have HbW := Lib.hid hdW.size
  have Hbz := Lib.hid hd.size
  refine (hi.out _).mono ?_
  rintro e whG ⟨AhG, chG, rshG, rfl, hG, hb⟩
  have Hz := Lib.hid hb.size
  replace hdW := below_kept hdW (Nat.le_refl _) hb
  replace hd := below_kept hd (Nat.le_refl _) hb
  clear hb
  go_wp2_with fail
  refine (laws_eqIntSS _ _ _ _ _ _ L _ hG.sl (sW.out.below hdW) hL HLr.out).mono ?_
  rintro e wq1 ⟨rfl, hb⟩
  replace hG := hG.kept hb
  replace Hz := Lib.hid (Nat.le_trans Hz.out hb.size)
  replace hdW := below_kept hdW (Nat.le_refl _) hb
  replace hd := below_kept hd (Nat.le_refl _) hb
  clear hb
  go_wp2_with fail
  have hlen := Lib.hid (mkd_length L L.length)
  refine (laws_markIntSS _ _ _ _ L _ hG Hz.out hL HLp.out).mono ?_
  rintro e wn ⟨rfl, hN, hbm⟩
  replace hdW := hdW.trans (hbm.mono HbW.out)
  replace hd := hd.trans (hbm.mono Hbz.out)
  replace Hz := Lib.hid (Nat.le_trans Hz.out hbm.size)
  clear hbm hG
  go_wp2_with fail
  have hG := hN
  clear hN
  have sG := hG.sl
  refine (laws_heldIntSS _ _ _ L _ sG hL HLp.out).mono ?_
  rintro e wh2 ⟨rfl, rfl⟩
  clear sG
  go_wp2_with fail
  refine (hi.out _).mono ?_
  rintro e whH ⟨AhH, chH, rshH, rfl, hH, hb⟩
  replace hG := hG.kept hb
  replace Hz := Lib.hid (Nat.le_trans Hz.out hb.size)
  replace hdW := below_kept hdW (Nat.le_refl _) hb
  replace hd := below_kept hd (Nat.le_refl _) hb
  clear hb
  go_wp2_with fail
  refine (laws_eqIntSS _ _ _ _ _ _ L _ hH.sl (sW.out.below hdW) hL HLr.out).mono ?_
  rintro e wq3 ⟨rfl, hb⟩
  replace hG := hG.kept hb
  replace Hz := Lib.hid (Nat.le_trans Hz.out hb.size)
  replace hdW := below_kept hdW (Nat.le_refl _) hb
  replace hd := below_kept hd (Nat.le_refl _) hb
  clear hb
  clear hH
  go_wp2_with fail
  have sG := hG.sl
  refine (laws_heldIntSS _ _ _ L _ sG hL HLp.out).mono ?_
  rintro e wh4 ⟨rfl, rfl⟩
  clear sG
  go_wp2_with fail
  clear hs hi hG hdW 
  go_wp2
  go_ret
  exact ⟨rfl, hd⟩

/- AllQuidditiesW -/
theorem spec_AllQuiddities (n : Int) (w : World) : Calls Try.prog 41 #[.int .i64 n] w (RetSS w (qzR n) (inB n 3 8)) := by
  go_enter Try.func41, Try.ntmps41
  go_wp2_with fail
  refine (spec_caFew _ _).mono ?_
  rintro e w2 ⟨rfl, rfl⟩
  cases hi : inB n 3 8
  · have hres : RetSS w (qzR n) (inB n 3 8) (.returned (.tuple #[.slice none 0 0, .bool false])) w := by
      rw [qzR_no hi, hi]
      exact ⟨none, 0, [], rfl, OwnSS.nil_, Below.refl _ _⟩
    have Hres := Lib.hid hres
    clear hres
    go_wp2
    go_ret2
    exact Hres.out
  · have hk := inB_iff'.1 hi
    obtain ⟨m, rfl⟩ := Int.eq_ofNat_of_zero_le (show 0 ≤ n by omega)
    have Hi := Lib.hid hi
    have Hc := Lib.hid (spec_caQuiddities m w (by omega) (by omega))
    have hq := qzR_yes hi
    have hl : (qzR (m : Int)).length = (qzT m).length := by rw [hq]; exact QS_length _ _ (Nat.le_refl _)
    rw [← hq] at Hc
    have Hl := Lib.hid hl
    clear hi hk hq hl
    go_wp2_with fail
    refine Hc.out.mono ?_
    rintro e w2 ⟨A2, c2, rs, rfl, o2, b2⟩
    have hres : RetSS w (qzR m) (inB m 3 8) (.returned (.tuple #[.slice A2 (qzT m).length c2, .bool true])) w2 := by
      rw [Hi.out]
      exact ⟨A2, c2, rs, by rw [Hl.out], o2, b2⟩
    have Hres := Lib.hid hres
    obtain ⟨x, hx⟩ : ∃ x, (qzT m).length = x := ⟨_, rfl⟩
    rw [hx] at Hres ⊢
    clear hres o2 b2 hx Hc
    go_wp2
    go_ret2
    exact Hres.out
theorem qzR_bd (n : Int) : (qzR n).length ≤ 132 ∧ ∀ x ∈ qzR n, x.length ≤ 8 := by
  cases hi : inB n 3 8
  · rw [qzR_no hi]; simp
  · have hk := inB_iff'.1 hi
    obtain ⟨m, rfl⟩ := Int.eq_ofNat_of_zero_le (show 0 ≤ n by omega)
    rw [qzR_yes hi]
    refine ⟨?_, fun x hx => ?_⟩
    · rw [QS_length _ _ (Nat.le_refl _), qz_len]
      exact alt_bd ⟨m, by omega⟩
    · have := QS_rows (qzT_rows m) _ (Nat.le_refl _) x hx
      omega
theorem qzR_row (n : Int) (j : Nat) (hj : j < (qzR n).length) : (rowOf (qzR n) j).length ≤ 8 := by
  have e : rowOf (qzR n) j = (qzR n)[j] := by simp [rowOf, hj]
  rw [e]
  exact (qzR_bd n).2 _ (List.getElem_mem hj)
theorem WAllQuiddities.walk (w : World) (n : Int) (wn : (Lit.int .i64 n).wf = true) :
    Calls Try.prog 12 #[.int .i64 n] w fun e w' => e = .returned (.bool true) ∧ Below w.heap.size w w' :=
  WAllQuiddities.core w n (qzR n) (inB n 3 8) (by have := (qzR_bd n).1; omega) (fun j hj => by have := qzR_row n j hj; omega)
    (by have h1 := pre_bd (qzR n) 8 (fun j hj => qzR_row n j hj) _ (Nat.le_refl _); have h2 := (qzR_bd n).1; omega)
    (Lib.hid fun w => spec_AllQuiddities n w) (Lib.hid fun w => impl_AllQuiddities n w)
end Go.Proofs.Ytbpaaoeefcebeab
