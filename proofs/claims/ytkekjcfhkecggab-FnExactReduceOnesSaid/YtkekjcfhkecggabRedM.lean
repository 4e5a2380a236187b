/- Ones taken out again and again: plain mathematics. -/
import Derived.Test.YtkekjcfhkecggabPutM
namespace Go.Proofs.Ytkekjcfhkecggab
set_option linter.unusedVariables false

/-- the first 1 from k on, d places looked at -/
def f1 (l : List Int) : Nat → Nat → Option Nat
  | _, 0 => none
  | k, d + 1 => if l.getD k 0 = 1 then some k else f1 l (k + 1) d
/-- the first 1 that has a term on both sides -/
def first1 (l : List Int) : Option Nat := f1 l 1 (l.length - 2)
theorem f1_bd (l : List Int) : ∀ (d k r : Nat), f1 l k d = some r → k ≤ r ∧ r < k + d ∧ l.getD r 0 = 1 := by
  intro d
  induction d with
  | zero => intro k r h; simp [f1] at h
  | succ d ih =>
    intro k r h
    unfold f1 at h
    split at h
    · injection h with h; subst h; exact ⟨Nat.le_refl _, by omega, ‹_›⟩
    · have := ih (k + 1) r h; exact ⟨by omega, by omega, this.2.2⟩
theorem first1_bd {l : List Int} {r : Nat} (h : first1 l = some r) : 1 ≤ r ∧ r + 1 < l.length ∧ l.getD r 0 = 1 := by
  have := f1_bd l _ _ _ h
  exact ⟨this.1, by omega, this.2.2⟩
theorem f1_hit {l : List Int} {k n : Nat} (hk : k + 1 < n) (hx : l.getD k 0 = 1) : f1 l k (n - 1 - k) = some k := by
  obtain ⟨d, hd⟩ : ∃ d, n - 1 - k = d + 1 := ⟨n - 2 - k, by omega⟩
  rw [hd]
  unfold f1
  rw [if_pos hx]
theorem f1_miss {l : List Int} {k n : Nat} (hk : k + 1 < n) (hx : l.getD k 0 ≠ 1) : f1 l k (n - 1 - k) = f1 l (k + 1) (n - 1 - (k + 1)) := by
  obtain ⟨d, hd⟩ : ∃ d, n - 1 - k = d + 1 := ⟨n - 2 - k, by omega⟩
  rw [hd, show n - 1 - (k + 1) = d by omega]
  conv => lhs; unfold f1
  rw [if_neg hx]
theorem f1_end {l : List Int} {k n : Nat} (hk : n ≤ k + 1) : f1 l k (n - 1 - k) = none := by
  rw [show n - 1 - k = 0 by omega]
  rfl
theorem f1_start {l : List Int} {n : Nat} (hn : l.length = n) : f1 l 1 (n - 1 - 1) = first1 l := by
  subst hn
  rfl
/-- one after the other -/
def rdG : Nat → List Int → Option (List Int)
  | 0, _ => none
  | f + 1, l => match first1 l with
    | none => some l
    | some k => if good (takL l k) = true then rdG f (takL l k) else none
theorem rdG_none {f : Nat} {l : List Int} (h : first1 l = none) : rdG (f + 1) l = some l := by
  unfold rdG
  rw [h]
theorem rdG_some {f k : Nat} {l : List Int} (h : first1 l = some k) : rdG (f + 1) l = if good (takL l k) = true then rdG f (takL l k) else none := by
  conv => lhs; unfold rdG
  rw [h]
theorem rdG_len : ∀ (f : Nat) (l r : List Int), l.length ≤ 10 → rdG f l = some r → r.length ≤ 10 := by
  intro f
  induction f with
  | zero => intro l r _ h; simp [rdG] at h
  | succ f ih =>
    intro l r hl h
    unfold rdG at h
    split at h
    · injection h with h; subst h; exact hl
    · split at h
      · rename_i hg
        exact ih _ _ (good_iff.1 hg).1 h
      · cases h
def roR (l : List Int) : Option (List Int) := if good l = true then rdG (l.length + 1) l else none
theorem roR_length (l : List Int) : (optL (roR l)).length ≤ 1000000000 := optL_length fun r h => by
  unfold roR at h
  split at h
  · rename_i hg
    have := rdG_len _ _ _ (good_iff.1 hg).1 h
    omega
  · cases h
/-- first1 as the program's two results -/
def f1I (l : List Int) : Int := match first1 l with
  | none => 0
  | some k => (k : Int)
def f1B (l : List Int) : Bool := (first1 l).isSome
end Go.Proofs.Ytkekjcfhkecggab
