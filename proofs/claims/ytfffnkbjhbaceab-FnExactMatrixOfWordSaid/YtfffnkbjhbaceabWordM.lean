/- Words of the letters l and r: plain mathematics, and what is told of a byte. -/
import Derived.Test.YtfffnkbjhbaceabSqT
namespace Go.Proofs.Ytfffnkbjhbaceab
set_option linter.unusedVariables false
open Go.RowKit

/-- a text's bytes as numbers -/
def wl (s : ByteArray) : List Int := s.data.toList.map fun b => (b.toNat : Int)
theorem wl_length (s : ByteArray) : (wl s).length = s.size := by
  unfold wl
  rw [List.length_map, Array.length_toList]
  rfl
theorem wl_get (s : ByteArray) (k : Nat) (h : k < s.size) : (wl s).getD k 0 = ((s[k]'h).toNat : Int) := by
  have h2 : k < s.data.toList.length := by rw [Array.length_toList]; exact h
  unfold wl
  rw [List.getD_eq_getElem?_getD, List.getElem?_map, List.getElem?_eq_getElem h2]
  rfl
/-- a letter's square -/
def letM (x : Int) : M4 := if x = 108 then ⟨1, 0, 1, 1⟩ else ⟨1, 1, 0, 1⟩
def okLet (x : Int) : Bool := decide (x = 108 ∨ x = 114)
theorem okLet_yes {x : Int} (h : okLet x = true) : x = 108 ∨ x = 114 := by simpa [okLet] using h
theorem okLet_no {x : Int} (h : okLet x = false) : ¬ x = 108 ∧ ¬ x = 114 := by simpa [okLet] using h
theorem letM_in (x : Int) : (letM x).In 1 := by
  unfold letM M4.In
  split <;> simp
/-- a word -/
def okW (l : List Int) : Bool := decide (l.length ≤ 40) && l.all okLet
theorem okW_iff {l : List Int} : okW l = true ↔ l.length ≤ 40 ∧ ∀ k, k < l.length → okLet (l.getD k 0) = true := by
  unfold okW
  rw [Bool.and_eq_true, decide_eq_true_eq, List.all_eq_true]
  constructor
  · rintro ⟨h1, h2⟩
    refine ⟨h1, fun k hk => ?_⟩
    have e : l.getD k 0 = l[k] := by simp [hk]
    rw [e]
    exact h2 _ (List.getElem_mem hk)
  · rintro ⟨h1, h2⟩
    refine ⟨h1, fun x hx => ?_⟩
    obtain ⟨k, hk, rfl⟩ := List.getElem_of_mem hx
    have e : l.getD k 0 = l[k] := by simp [hk]
    rw [← e]
    exact h2 k hk
theorem okW_bad {l : List Int} {k : Nat} (hk : k < l.length) (h : okLet (l.getD k 0) = false) : okW l = false := by
  cases ho : okW l
  · rfl
  · have := (okW_iff.1 ho).2 k hk
    rw [h] at this
    cases this
theorem okW_long {l : List Int} (h : 40 < l.length) : okW l = false := by
  cases ho : okW l
  · rfl
  · have := (okW_iff.1 ho).1
    omega
/-- a word's matrix -/
def wordM (l : List Int) : M4 := prodF M4.mul (l.map letM)
theorem word_in (l : List Int) : ∀ k, k ≤ l.length → (prodF M4.mul ((l.map letM).take k)).In (2 ^ k) := by
  intro k
  induction k with
  | zero => intro _; exact M4.one_in
  | succ k ih =>
    intro hk
    rw [prodF_take M4.mul (l.map letM) k (by rw [List.length_map]; omega)]
    have e : (l.map letM).getD k M4.one = letM (l.getD k 0) := by simp [show k < l.length by omega]
    rw [e]
    refine ((ih (by omega)).mul (letM_in _)).mono ?_
    rw [Int.pow_succ]
    omega
theorem pow2le : ∀ k : Fin 41, (2 : Int) ^ k.1 * 1 ≤ 4000000000000000000 := by decide +kernel
theorem word_bd (l : List Int) (h40 : l.length ≤ 40) : ∀ k, k < (l.map letM).length → ∃ P Q, (prodF M4.mul ((l.map letM).take k)).In P ∧ ((l.map letM).getD k M4.one).In Q ∧ P * Q ≤ 4000000000000000000 := by
  intro k hk
  rw [List.length_map] at hk
  refine ⟨2 ^ k, 1, word_in l k (by omega), ?_, pow2le ⟨k, by omega⟩⟩
  have e : (l.map letM).getD k M4.one = letM (l.getD k 0) := by simp [hk]
  rw [e]
  exact letM_in _
/-- what comes back for a text -/
def wR (l : List Int) : M4 := if okW l = true then (wordM l).fit else M4.zero
def wOk (l : List Int) : Bool := okW l && (wordM l).ok
def WEnd (l : List Int) (w : World) (e : Ending) (w' : World) : Prop := e = .returned (.tuple #[.agg #[.int .i64 (wR l).a, .int .i64 (wR l).b, .int .i64 (wR l).c, .int .i64 (wR l).d], .bool (wOk l)]) ∧ Below w.heap.size w w'
theorem wEnd_no {l : List Int} {w w' : World} (h : okW l = false) (hb : Below w.heap.size w w') : WEnd l w (.returned (.tuple #[.agg #[.int .i64 0, .int .i64 0, .int .i64 0, .int .i64 0], .bool false])) w' := by
  have e1 : wR l = M4.zero := if_neg (by rw [h]; simp)
  have e2 : wOk l = false := by unfold wOk; rw [h]; rfl
  unfold WEnd
  rw [e1, e2]
  exact ⟨rfl, hb⟩
theorem wEnd_yes {l : List Int} {F : M4} {ok : Bool} {w w' : World} (h : okW l = true) (hF : (wordM l).fit = F) (hk : (wordM l).ok = ok) (hb : Below w.heap.size w w') :
    WEnd l w (.returned (.tuple #[.agg #[.int .i64 F.a, .int .i64 F.b, .int .i64 F.c, .int .i64 F.d], .bool ok])) w' := by
  have e1 : wR l = F := by unfold wR; rw [if_pos h, hF]
  have e2 : wOk l = ok := by unfold wOk; rw [h, hk]; rfl
  unfold WEnd
  rw [e1, e2]
  exact ⟨rfl, hb⟩
/-- the first letters' squares, zeros behind them -/
def wF (l : List Int) (k : Nat) : List M4 := (l.take k).map letM ++ List.replicate (l.length - k) M4.zero
theorem wF_zero (l : List Int) : wF l 0 = List.replicate l.length M4.zero := by simp [wF]
theorem wF_all (l : List Int) : wF l l.length = l.map letM := by simp [wF]
theorem wF_set (l : List Int) (k : Nat) (h : k < l.length) : (wF l k).set k (letM (l.getD k 0)) = wF l (k + 1) := by
  unfold wF
  have e : l.length - k = (l.length - (k + 1)) + 1 := by omega
  rw [e, List.replicate_succ, List.set_append_right _ _ (by simp; omega)]
  have e2 : k - (List.map letM (List.take k l)).length = 0 := by simp; omega
  rw [e2, List.set_cons_zero, List.take_succ_eq_append_getElem h, List.map_append, List.append_assoc]
  congr 1
  simp [h]
theorem spec_mxLetter_l (w : World) : Calls Try.prog 38 #[.int .u8 108] w fun e w' => e = .returned (.tuple #[.agg #[.int .i64 1, .int .i64 0, .int .i64 1, .int .i64 1], .bool true]) ∧ Below w.heap.size w w' := by
  have hd := Lib.hid (fun o => below_set4 (g := w.heap.size) (x0 := .int .i64 1) (x1 := .int .i64 0) (x2 := .int .i64 1) (x3 := .int .i64 1) ((Below.refl w.heap.size w).alloc (Nat.le_refl _) o) (Nat.le_refl _))
  have hd2 := Lib.hid (fun o => (Below.refl w.heap.size w).alloc (Nat.le_refl _) o)
  go_enter Try.func38, Try.ntmps38
  go_wp2
  refine bodyPost_ret (v := .tuple #[.agg #[.int .i64 1, .int .i64 0, .int .i64 1, .int .i64 1], .bool true]) (by simp [results, Try.results38, go_sem]) rfl ⟨rfl, ?_⟩
  first | exact hd2.out _ | exact hd.out _
theorem spec_mxLetter_r (w : World) : Calls Try.prog 38 #[.int .u8 114] w fun e w' => e = .returned (.tuple #[.agg #[.int .i64 1, .int .i64 1, .int .i64 0, .int .i64 1], .bool true]) ∧ Below w.heap.size w w' := by
  have hd2 := Lib.hid (fun o => (Below.refl w.heap.size w).alloc (Nat.le_refl _) o)
  go_enter Try.func38, Try.ntmps38
  go_wp2
  refine bodyPost_ret (v := .tuple #[.agg #[.int .i64 1, .int .i64 1, .int .i64 0, .int .i64 1], .bool true]) (by simp [results, Try.results38, go_sem]) rfl ⟨rfl, ?_⟩
  exact hd2.out _
theorem spec_mxLetter_no (x : Int) (w : World) (h1 : ¬ x = 108) (h2 : ¬ x = 114) : Calls Try.prog 38 #[.int .u8 x] w fun e w' => e = .returned (.tuple #[.agg #[.int .i64 0, .int .i64 0, .int .i64 0, .int .i64 0], .bool false]) ∧ Below w.heap.size w w' := by
  have hd2 := Lib.hid (fun o => (Below.refl w.heap.size w).alloc (Nat.le_refl _) o)
  have e1 : (x == 108) = false := by simpa using h1
  have e2 : (x == 114) = false := by simpa using h2
  go_enter Try.func38, Try.ntmps38
  go_wp2
  refine bodyPost_ret (v := .tuple #[.agg #[.int .i64 0, .int .i64 0, .int .i64 0, .int .i64 0], .bool false]) (by simp [results, Try.results38, go_sem]) rfl ⟨rfl, ?_⟩
  exact hd2.out _
theorem impl_letter_l (w : World) : Calls Try.prog 41 #[.int .u8 108] w fun e w' => e = .returned (.tuple #[.agg #[.int .i64 1, .int .i64 0, .int .i64 1, .int .i64 1], .bool true]) ∧ Below w.heap.size w w' := by
  have hd2 := Lib.hid (fun o => (Below.refl w.heap.size w).alloc (Nat.le_refl _) o)
  go_enter Try.func41, Try.ntmps41
  go_wp2
  refine bodyPost_ret (v := .tuple #[.agg #[.int .i64 1, .int .i64 0, .int .i64 1, .int .i64 1], .bool true]) (by simp [results, Try.results41, go_sem]) rfl ⟨rfl, ?_⟩
  exact hd2.out _
theorem impl_letter_r (w : World) : Calls Try.prog 41 #[.int .u8 114] w fun e w' => e = .returned (.tuple #[.agg #[.int .i64 1, .int .i64 1, .int .i64 0, .int .i64 1], .bool true]) ∧ Below w.heap.size w w' := by
  have hd2 := Lib.hid (fun o => (Below.refl w.heap.size w).alloc (Nat.le_refl _) o)
  go_enter Try.func41, Try.ntmps41
  go_wp2
  refine bodyPost_ret (v := .tuple #[.agg #[.int .i64 1, .int .i64 1, .int .i64 0, .int .i64 1], .bool true]) (by simp [results, Try.results41, go_sem]) rfl ⟨rfl, ?_⟩
  exact hd2.out _
theorem impl_letter_no (x : Int) (w : World) (h1 : ¬ x = 108) (h2 : ¬ x = 114) : Calls Try.prog 41 #[.int .u8 x] w fun e w' => e = .returned (.tuple #[.agg #[.int .i64 0, .int .i64 0, .int .i64 0, .int .i64 0], .bool false]) ∧ Below w.heap.size w w' := by
  have hd2 := Lib.hid (fun o => (Below.refl w.heap.size w).alloc (Nat.le_refl _) o)
  have e1 : (x == 108) = false := by simpa using h1
  have e2 : (x == 114) = false := by simpa using h2
  go_enter Try.func41, Try.ntmps41
  go_wp2
  refine bodyPost_ret (v := .tuple #[.agg #[.int .i64 0, .int .i64 0, .int .i64 0, .int .i64 0], .bool false]) (by simp [results, Try.results41, go_sem]) rfl ⟨rfl, ?_⟩
  exact hd2.out _
end Go.Proofs.Ytfffnkbjhbaceab
