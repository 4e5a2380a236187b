/- TcB: one text, since a claim holds 60 files at most. -/
import Derived.Test.YtfkkbjbgjmaciaaContM
import Derived.Test.YtfkkbjbgjmaciaaContI
import Derived.Test.YtfkkbjbgjmaciaaLawM
import Derived.Test.YtfkkbjbgjmaciaaNbB
import Derived.Test.YtfkkbjbgjmaciaaPutA
import Derived.Test.YtfkkbjbgjmaciaaPutM
import Derived.Test.YtfkkbjbgjmaciaaCcM
import Derived.Test.YtfkkbjbgjmaciaaMlM
import Derived.Test.YtfkkbjbgjmaciaaTcD
import Derived.Test.YtfkkbjbgjmaciaaLawSS
import Derived.Test.YtfkkbjbgjmaciaaContW
import Derived.Deep.Cut
import Derived.WalkSpells
import Derived.Lib.LazyBuf
import Derived.IntWalk
import Derived.BigQuiet
import Derived.Deep.QuietTactic
/- FracM: Fractions of continuants: plain mathematics; what the loops need. -/
namespace Go.Proofs.Ytfkkbjbgjmaciaa
set_option linter.unusedVariables false

theorem drop_cons (l : List Int) (k : Nat) (h : k < l.length) : l.drop k = l.getD k 0 :: l.drop (k + 1) := by
  rw [List.drop_eq_getElem_cons h]
  simp [h]
theorem frac_cons (s x : Int) (r : List Int) (hr : r ≠ []) : frac s (x :: r) = match frac s r with
      | none => none
      | some (n, d) => if n = 0 then none else if n < 0 then some (-(x * n + s * d), -n) else some (x * n + s * d, n) := by
  cases r with
  | nil => exact absurd rfl hr
  | cons y r' => rfl
theorem frac_one (s x : Int) : frac s [x] = some (x, 1) := rfl
theorem drop_ne {l : List Int} {k : Nat} (h : k < l.length) : l.drop k ≠ [] := by
  intro e
  have := congrArg List.length e
  simp at this
  omega
/-- the state of the model's loop in front of place k: none ahead means none at all -/
theorem frac_none (s : Int) (l : List Int) (k : Nat) (h : frac s (l.drop k) = none) (hk : k < l.length) : frac s l = none := by
  induction k with
  | zero => simpa using h
  | succ k ih =>
    refine ih ?_ (by omega)
    rw [drop_cons l k (by omega), frac_cons s _ _ (drop_ne hk), h]
theorem frac_bd {s : Int} (hs : s = 1 ∨ s = -1) (l : List Int) : ∀ n d, Small l → frac s l = some (n, d) → (-pw l.length ≤ n ∧ n ≤ pw l.length) ∧ (1 ≤ d ∧ d ≤ pw l.length) := by
  induction l with
  | nil => intro n d _ h; simp [frac] at h
  | cons x r ih =>
    intro n d hsm h
    obtain ⟨hx, hr⟩ := hsm.cons
    have hp := pw_pos r.length
    show (-(31 * pw r.length) ≤ n ∧ n ≤ 31 * pw r.length) ∧ (1 ≤ d ∧ d ≤ 31 * pw r.length)
    by_cases he : r = []
    · subst he
      rw [frac_one] at h
      injection h with h
      injection h with h1 h2
      subst h1 h2
      have : pw ([] : List Int).length = 1 := rfl
      omega
    · rw [frac_cons s x r he] at h
      cases hf : frac s r with
      | none => rw [hf] at h; cases h
      | some p =>
        obtain ⟨n1, d1⟩ := p
        rw [hf] at h
        dsimp only at h
        obtain ⟨b1, b2⟩ := ih n1 d1 hr hf
        have b3 := (step_bd hs hx (show -pw r.length ≤ d1 ∧ d1 ≤ pw r.length by omega) b1).2
        split at h
        · cases h
        · split at h
          · injection h with h
            injection h with h1 h2
            omega
          · injection h with h
            injection h with h1 h2
            omega
/-- what a round of the model's loop does -/
theorem frac_round {s : Int} (hs : s = 1 ∨ s = -1) (l : List Int) (hsm : Small l) (hl : l.length ≤ 10) (k : Nat) (hk : k + 1 < l.length) (n d : Int) (h : frac s (l.drop (k + 1)) = some (n, d)) :
    (-26439622160671 ≤ n ∧ n ≤ 26439622160671) ∧ (1 ≤ d ∧ d ≤ 26439622160671) ∧ (-793188664820130 ≤ l.getD k 0 * n ∧ l.getD k 0 * n ≤ 793188664820130) ∧ (-26439622160671 ≤ s * d ∧ s * d ≤ 26439622160671) ∧
    (n = 0 → frac s l = none) ∧ (n < 0 → frac s (l.drop k) = some (-(l.getD k 0 * n + s * d), -n)) ∧ (0 < n → frac s (l.drop k) = some (l.getD k 0 * n + s * d, n)) := by
  obtain ⟨b1, b2⟩ := frac_bd hs (l.drop (k + 1)) n d (hsm.drop _) h
  have e : (l.drop (k + 1)).length ≤ 9 := by simp; omega
  have hp := pw_mono e
  rw [pw9] at hp
  have b3 : -26439622160671 ≤ n ∧ n ≤ 26439622160671 := by omega
  have b4 := mul_bd (hsm.get k (by omega)) b3
  have b5 : -26439622160671 ≤ s * d ∧ s * d ≤ 26439622160671 := by rcases hs with rfl | rfl <;> omega
  have hd := drop_cons l k (by omega)
  have hf := frac_cons s (l.getD k 0) (l.drop (k + 1)) (drop_ne hk)
  rw [h] at hf
  dsimp only at hf
  refine ⟨b3, by omega, by omega, b5, fun h0 => ?_, fun h0 => ?_, fun h0 => ?_⟩
  · refine frac_none s l k ?_ (by omega)
    rw [hd, hf, if_pos h0]
  · rw [hd, hf, if_neg (by omega), if_pos h0]
  · rw [hd, hf, if_neg (by omega), if_neg (by omega)]
/-- the model's fraction as three results -/
def frR (s : Int) (l : List Int) : Int × Int × Bool := match frac s l with
  | none => (0, 0, false)
  | some (n, d) => (n, d, true)
theorem divZ_cons (x : Int) (r : List Int) (hr : r ≠ []) : divZ (x :: r) = (decide (ctv (-1) r = 0) || divZ r) := by
  cases r with
  | nil => exact absurd rfl hr
  | cons y r' => rfl
theorem divZ_end (l : List Int) (k : Nat) (h : l.length ≤ k + 1) : divZ (l.drop k) = false := by
  cases e : l.drop k with
  | nil => rfl
  | cons x r =>
    have h2 := congrArg List.length e
    simp at h2
    obtain rfl : r = [] := List.eq_nil_of_length_eq_zero (by omega)
    rfl
theorem divZ_step (l : List Int) (k : Nat) (h : k + 1 < l.length) : divZ (l.drop k) = (decide (ctv (-1) (l.drop (k + 1)) = 0) || divZ (l.drop (k + 1))) := by
  rw [drop_cons l k (by omega), divZ_cons _ _ (drop_ne h)]
theorem frR_minus (l : List Int) (h : 0 < l.length) : frR (-1) l = if divZ l = true then (0, 0, false) else (sgn (ctv (-1) (l.drop 1)) (ctv (-1) l), sgn (ctv (-1) (l.drop 1)) (ctv (-1) (l.drop 1)), true) := by
  cases l with
  | nil => simp at h
  | cons x r =>
    unfold frR
    rw [frac_minus r x]
    cases divZ (x :: r) <;> simp
theorem frR_plus (l : List Int) (h : 0 < l.length) (hp : Pos l) : frR 1 l = (ctv 1 l, ctv 1 (l.drop 1), true) := by
  cases l with
  | nil => simp at h
  | cons x r =>
    unfold frR
    rw [frac_plus r x hp]
    rfl
/-- the least number among the first ones -/
def minF (l : List Int) : Nat → Int
  | 0 => l.getD 0 0
  | k + 1 => min (minF l k) (l.getD (k + 1) 0)
theorem minF_ge (l : List Int) (m : Int) (k : Nat) : m ≤ minF l k ↔ ∀ i, i ≤ k → m ≤ l.getD i 0 := by
  induction k with
  | zero =>
    constructor
    · intro h i hi
      obtain rfl : i = 0 := by omega
      exact h
    · intro h; exact h 0 (by omega)
  | succ k ih =>
    show m ≤ min (minF l k) (l.getD (k + 1) 0) ↔ _
    rw [Int.le_min, ih]
    constructor
    · rintro ⟨h1, h2⟩ i hi
      by_cases e : i = k + 1
      · subst e; exact h2
      · exact h1 i (by omega)
    · intro h
      exact ⟨fun i hi => h i (by omega), h (k + 1) (by omega)⟩
/-- terms, at least one, all of them at least 1 -/
def posB (l : List Int) : Bool := good l && decide (0 < l.length) && allB l 1 30
theorem posB_iff {l : List Int} : posB l = true ↔ good l = true ∧ 0 < l.length ∧ allB l 1 30 = true := by
  unfold posB
  rw [Bool.and_eq_true, Bool.and_eq_true, decide_eq_true_eq, and_assoc]
theorem posB_pos {l : List Int} (h : posB l = true) : Pos l := by
  intro x hx
  obtain ⟨i, hi, rfl⟩ := List.getElem_of_mem hx
  have := (allB_iff.1 (posB_iff.1 h).2.2 i hi).1
  simpa [hi] using this
theorem posB_min {l : List Int} (hg : good l = true) (h0 : 0 < l.length) : decide (1 ≤ minF l (l.length - 1)) = allB l 1 30 := by
  rw [Bool.eq_iff_iff, decide_eq_true_eq, minF_ge, allB_iff]
  constructor
  · intro h i hi
    have := (good_iff.1 hg).2 i hi
    exact ⟨h i (by omega), this.2⟩
  · intro h i hi
    exact (h i (by omega)).1
end Go.Proofs.Ytfkkbjbgjmaciaa

/- FracS: The model's fractions; the program's test of divisions by 0, least numbers. -/
namespace Go.Proofs.Ytfkkbjbgjmaciaa
open Go.RowKit

/-- three results -/
def FrEnd (r : Int × Int × Bool) (w : World) (e : Ending) (w' : World) : Prop := e = .returned (.tuple #[.int .i64 r.1, .int .i64 r.2.1, .bool r.2.2]) ∧ Below w.heap.size w w'
theorem frEnd_mk {r : Int × Int × Bool} {a b : Int} {c : Bool} {w w' : World} (h : r = (a, b, c)) (hb : Below w.heap.size w w') : FrEnd r w (.returned (.tuple #[.int .i64 a, .int .i64 b, .bool c])) w' := by
  subst h
  exact ⟨rfl, hb⟩

set_option maxHeartbeats 1600000 in
theorem spec_ctFraction (A : Option Addr) (n c B : Nat) (l : List Int) (s : Int) (w : World) (hn : l.length = n) (hs : s = 1 ∨ s = -1) (h : SlI w B A l) (hsm : Small l) (h0 : 0 < n) (hl : n ≤ 10) :
    Calls Try.prog 100 #[.slice A n c, .int .i64 s] w (FrEnd (frR s l) w) := by
  subst hn
  have hsb : -1 ≤ s ∧ s ≤ 1 := by omega
  obtain ⟨sb0, sb1⟩ := hsb
  obtain ⟨b', off, rfl, hbB, hc⟩ := h h0
  obtain ⟨m, hm⟩ : ∃ m, l.length = m + 1 := ⟨l.length - 1, by omega⟩
  have gl := hc m (by omega)
  have hst : frac s (l.drop m) = some (l.getD m 0, 1) := by
    rw [drop_cons l m (by omega), List.drop_of_length_le (by omega)]
    rfl
  have HC := Lib.hid hc
  have Hs := Lib.hid hs
  have Hsm := Lib.hid hsm
  have Hst := Lib.hid hst
  have m1 : (l.length : Int) - 1 = (m : Int) := by omega
  have m2 : (l.length : Int) - 2 = (m : Int) - 1 := by omega
  have m3 : (0 : Int) ≤ (m : Int) := by omega
  have m4 : (m : Int) < (l.length : Int) := by omega
  have m5 : (m : Int) ≤ 9 := by omega
  have Hm := Lib.hid hm
  clear hs hsm h hc hst hm
  generalize l.getD m 0 = x0 at *
  go_enter Try.func100, Try.ntmps100
  go_wp2
  go_loop [7, 8, 9, 10] (fun a b i _ => ∃ (k : Nat) (n d : Int), k ≤ m ∧ i = .int .i64 ((k : Int) - 1) ∧ a = .int .i64 n ∧ b = .int .i64 d ∧ frac s (l.drop k) = some (n, d)) (fun _ _ i _ => (intOf i + 1).toNat)
  case atStart => exact ⟨m, x0, 1, Nat.le_refl _, rfl, rfl, rfl, Hst.out⟩
  case round =>
    clear Hst gl
    obtain ⟨k, n, d, hk, rfl, rfl, rfl, hf⟩ := hrel
    by_cases hlt : 0 < k
    · obtain ⟨j, rfl⟩ : ∃ j, k = j + 1 := ⟨k - 1, by omega⟩
      have g0 := HC.out j (by have := Hm.out; omega)
      obtain ⟨⟨n1, n2⟩, ⟨d1, d2⟩, ⟨p1, p2⟩, ⟨q1, q2⟩, hz, hneg, hpos⟩ := frac_round Hs.out l Hsm.out hl j (by have := Hm.out; omega) n d hf
      have j1 : ((j + 1 : Nat) : Int) - 1 = (j : Int) := by omega
      rw [j1]
      have j2 : (0 : Int) ≤ (j : Int) := by omega
      have j3 : (j : Int) < (l.length : Int) := by omega
      have Hz := Lib.hid hz
      have Hneg := Lib.hid hneg
      have Hpos := Lib.hid hpos
      generalize l.getD j 0 = x at *
      clear hz hneg hpos hf hlt j1
      by_cases hn0 : n = 0
      · have hE := frEnd_mk (w := w) (w' := w) (show frR s l = (0, 0, false) by unfold frR; rw [Hz.out hn0]) (Below.refl _ _)
        have HE := Lib.hid hE
        subst hn0
        clear hE
        go_wp2
        exact bodyPost_ret (v := .tuple #[.int .i64 0, .int .i64 0, .bool false]) (by simp [results, Try.results100, go_sem]) rfl HE.out
      · by_cases hneg : n < 0
        · go_wp2
          go_round
          case rel => exact ⟨j, _, _, by omega, rfl, rfl, rfl, Hneg.out hneg⟩
          case measure => simp [intOf]
        · go_wp2
          go_round
          case rel => exact ⟨j, _, _, by omega, rfl, rfl, rfl, Hpos.out (by omega)⟩
          case measure => simp [intOf]
    · obtain rfl : k = 0 := by omega
      have hE := frEnd_mk (w := w) (w' := w) (show frR s l = (n, d, true) by unfold frR; rw [List.drop_zero] at hf; rw [hf]) (Below.refl _ _)
      have HE := Lib.hid hE
      clear hE hf
      go_wp2
      exact bodyPost_ret (v := .tuple #[.int .i64 n, .int .i64 d, .bool true]) (by simp [results, Try.results100, go_sem]) rfl HE.out

set_option maxHeartbeats 800000 in
theorem impl_dividesByZero (A : Option Addr) (n c B : Nat) (l : List Int) (w : World) (hn : l.length = n) (h0 : 0 < n) (hl : n ≤ 10) (hlc : n ≤ c) (hB : B ≤ w.heap.size) (h : SlI w B A l) (hsm : Small l) :
    Calls Try.prog 99 #[.slice A n c] w fun e w' => e = .returned (.bool (divZ l)) ∧ Below w.heap.size w w' := by
  subst hn
  obtain ⟨b', off, rfl, hbB, hc⟩ := h h0
  have H := Lib.hid h
  have Hsm := Lib.hid hsm
  clear hc h hsm
  go_enter Try.func99, Try.ntmps99
  go_wp2
  go_loopw [3] (fun i wr => ∃ k : Nat, k + 1 ≤ l.length ∧ i = .int .i64 ((k : Int) + 1) ∧ divZ l = divZ (l.drop k) ∧ Below w.heap.size w wr) (fun i _ => l.length - (intOf i).toNat)
  case atStart => exact ⟨0, by omega, rfl, by rw [List.drop_zero], Below.refl _ _⟩
  case round =>
    obtain ⟨k, hk, rfl, hd, hb⟩ := hrel
    by_cases hlt : k + 1 < l.length
    · have hst := divZ_step l k hlt
      have hs := (H.out.below (hb.mono hB))
      have k1 : (0 : Int) ≤ (k : Int) + 1 := by omega
      have k2 : (k : Int) + 1 < (l.length : Int) := by omega
      have k3 : (k : Int) + 1 ≤ (l.length : Int) := by omega
      have k4 : (l.length : Int) ≤ (c : Int) := by omega
      have k5 : ((k : Int) + 1).toNat = k + 1 := by omega
      have k6 : ¬ c = k + 1 := by omega
      have hs2 : SlI wr B (some ⟨b', off + (k + 1), none⟩) (l.drop (k + 1)) := by
        have := SlI.cutIf (a0 := ⟨0, 0, none⟩) hs (k + 1) hlc
        rwa [if_neg k6] at this
      have hle : (l.drop (k + 1)).length = l.length - (k + 1) := by simp
      have Hle := Lib.hid hle
      have Hs2 := Lib.hid hs2
      have Hst := Lib.hid hst
      have Hd := Lib.hid hd
      have hlc2 : l.length - (k + 1) ≤ c - (k + 1) := by omega
      clear hs hs2 hst hle hd
      go_wp2_with fail
      refine (impl_continuant _ (l.length - (k + 1)) _ B (l.drop (k + 1)) _ Hle.out (by omega) hlc2 Hs2.out (Hsm.out.drop _)).mono ?_
      rintro e w1 ⟨rfl, z, rfl⟩
      have Hb := Lib.hid (below_drewN hb z)
      clear hb
      by_cases hz : ctv (-1) (l.drop (k + 1)) = 0
      · have hE : divZ l = true := by rw [Hd.out, Hst.out, hz]; rfl
        have HE := Lib.hid hE
        rw [hz]
        clear hE hz
        go_wp2
        go_ret
        exact ⟨ret_bool HE.out.symm, Hb.out⟩
      · have hE : divZ l = divZ (l.drop (k + 1)) := by rw [Hd.out, Hst.out, decide_eq_false hz, Bool.false_or]
        have HE := Lib.hid hE
        generalize ctv (-1) (l.drop (k + 1)) = v at *
        have hv : (v == 0) = false := by simpa using hz
        clear hE hz
        go_wp2
        go_roundw
        case rel => exact ⟨k + 1, by omega, by go_num, HE.out, Hb.out⟩
        case measure => simp [intOf]; omega
    · have hE : divZ l = false := by rw [hd]; exact divZ_end l k (by omega)
      have HE := Lib.hid hE
      clear hE hd
      go_wp2
      go_ret
      exact ⟨ret_bool HE.out.symm, hb⟩

set_option maxHeartbeats 800000 in
theorem slices_Min (A : Option Addr) (n c B : Nat) (l : List Int) (w : World) (hn : l.length = n) (h0 : 0 < n) (hl : n ≤ 1000000) (h : SlI w B A l) :
    Calls Try.prog 177 #[.slice A n c] w fun e w' => e = .returned (.int .i64 (minF l (n - 1))) ∧ w = w' := by
  subst hn
  obtain ⟨b', off, rfl, hbB, hc⟩ := h h0
  have g00 := hc 0 h0
  rw [Nat.add_zero] at g00
  have e0 : minF l 0 = l.getD 0 0 := rfl
  rw [← e0] at g00
  have HC := Lib.hid hc
  have i00 : (1 : Int) ≤ (l.length : Int) := by omega
  clear hc h e0
  generalize hx0 : minF l 0 = x0 at *
  have Hx0 := Lib.hid hx0
  clear hx0
  go_enter Try.func177, Try.ntmps177
  go_wp2
  go_loop [3, 4] (fun m i => ∃ k : Nat, k < l.length ∧ i = .int .i64 ((k : Int) + 1) ∧ m = .int .i64 (minF l k)) (fun _ i => l.length - (intOf i).toNat)
  case atStart => exact ⟨0, h0, rfl, by rw [Hx0.out]⟩
  case round =>
    clear g00 Hx0
    obtain ⟨k, hk, rfl, rfl⟩ := hrel
    by_cases hlt : k + 1 < l.length
    · have g0 := HC.out (k + 1) hlt
      have i0 : (0 : Int) ≤ (k : Int) + 1 := by omega
      have i1 : (k : Int) + 1 < (l.length : Int) := by omega
      have hst : minF l (k + 1) = min (minF l k) (l.getD (k + 1) 0) := rfl
      have Hst := Lib.hid hst
      clear hst
      generalize minF l k = m at *
      generalize l.getD (k + 1) 0 = x at *
      go_wp2
      go_round
      case rel => exact ⟨k + 1, hlt, by go_num, by rw [Hst.out]; congr 1; split <;> omega⟩
      case measure => simp [intOf]; omega
    · have hE : minF l (l.length - 1) = minF l k := by rw [show l.length - 1 = k by omega]
      have HE := Lib.hid hE
      clear hE
      go_wp2
      go_ret
      exact ⟨ret_int HE.out.symm, rfl⟩
end Go.Proofs.Ytfkkbjbgjmaciaa

/- FracW: FractionOfMinus, FractionOfPlus: the model's and the program's contracts, and the laws' walks. -/
namespace Go.Proofs.Ytfkkbjbgjmaciaa
open Go.RowKit

def fmR (l : List Int) : Int × Int × Bool := if good l = true ∧ 0 < l.length then frR (-1) l else (0, 0, false)
theorem fmR_no {l : List Int} (h : ¬ (good l = true ∧ 0 < l.length)) : fmR l = (0, 0, false) := if_neg h
theorem fmR_yes {l : List Int} (h1 : good l = true) (h2 : 0 < l.length) : fmR l = frR (-1) l := if_pos ⟨h1, h2⟩
def fpR (l : List Int) : Int × Int × Bool := if posB l = true then frR 1 l else (0, 0, false)
theorem fpR_no {l : List Int} (h : posB l = false) : fpR l = (0, 0, false) := if_neg (by rw [h]; simp)
theorem fpR_yes {l : List Int} (h1 : posB l = true) : fpR l = frR 1 l := if_pos h1

theorem spec_FractionOfMinus (A : Option Addr) (c B : Nat) (l : List Int) (w : World) (h : SlI w B A l) (hl : l.length ≤ 1048576) :
    Calls Try.prog 18 #[.slice A l.length c] w (FrEnd (fmR l) w) := by
  go_enter Try.func18, Try.ntmps18
  go_wp2_with fail
  refine (spec_ctGood A _ c B l _ rfl h hl).mono ?_
  rintro e w1 ⟨rfl, rfl⟩
  cases hg : good l
  · have Hres := Lib.hid (frEnd_mk (w := w) (w' := w) (fmR_no (l := l) (by rw [hg]; simp)) (Below.refl _ _))
    clear h
    go_wp2
    exact bodyPost_ret (v := .tuple #[.int .i64 0, .int .i64 0, .bool false]) (by simp [results, Try.results18, go_sem]) rfl Hres.out
  · have Hg := Lib.hid hg
    by_cases h0 : 0 < l.length
    · have n0 : (1 : Int) ≤ (l.length : Int) := by omega
      have n1 : ((l.length : Int) == 0) = false := by rw [beq_eq_false_iff_ne]; omega
      have Hy := Lib.hid (fmR_yes hg h0)
      clear hg
      obtain ⟨r1, r2, r3, hr⟩ : ∃ r1 r2 r3, frR (-1) l = (r1, r2, r3) := ⟨_, _, _, rfl⟩
      have hcall := spec_ctFraction A _ c B l (-1) w rfl (.inr rfl) h (good_small Hg.out) h0 (good_iff.1 Hg.out).1
      rw [hr] at hcall
      have Hcall := Lib.hid hcall
      have hy := Hy.out
      rw [hr] at hy
      have Hy2 := Lib.hid hy
      clear hcall hy hr Hy
      go_wp2_with fail
      refine Hcall.out.mono ?_
      rintro e w1 ⟨rfl, hb⟩
      have Hres := Lib.hid (frEnd_mk (w := w) Hy2.out hb)
      clear h hb
      go_wp2
      exact bodyPost_ret (v := .tuple #[.int .i64 r1, .int .i64 r2, .bool r3]) (by simp [results, Try.results18, go_sem]) rfl Hres.out
    · have Hres := Lib.hid (frEnd_mk (w := w) (w' := w) (fmR_no (l := l) (fun e => h0 e.2)) (Below.refl _ _))
      obtain rfl : l = [] := List.eq_nil_of_length_eq_zero (by omega)
      clear h hg
      go_wp2
      exact bodyPost_ret (v := .tuple #[.int .i64 0, .int .i64 0, .bool false]) (by simp [results, Try.results18, go_sem]) rfl Hres.out

theorem spec_ctPositive (A : Option Addr) (c B : Nat) (l : List Int) (w : World) (h : SlI w B A l) (hl : l.length ≤ 1048576) :
    Calls Try.prog 126 #[.slice A l.length c] w fun e w' => e = .returned (.bool (posB l)) ∧ w = w' := by
  have hp : posB l = (good l && decide (0 < l.length) && allB l 1 30) := rfl
  have Hp := Lib.hid hp
  clear hp
  go_enter Try.func126, Try.ntmps126
  go_wp2_with fail
  refine (spec_ctGood A _ c B l _ rfl h hl).mono ?_
  rintro e w1 ⟨rfl, rfl⟩
  cases hg : good l
  · have Hg := Lib.hid hg
    clear h hg
    go_wp2
    go_ret
    exact ⟨ret_bool (by rw [Hp.out, Hg.out]; rfl), rfl⟩
  · have Hg := Lib.hid hg
    by_cases h0 : 0 < l.length
    · have n0 : (0 : Int) < (l.length : Int) := by omega
      have H0 := Lib.hid (decide_eq_true h0)
      clear hg
      go_wp2_with fail
      refine (spec_l1All A c B l 1 30 _ h (by omega)).mono ?_
      rintro e w1 ⟨rfl, rfl⟩
      clear h
      go_wp2
      go_ret
      exact ⟨ret_bool (by rw [Hp.out, Hg.out, H0.out]; rfl), rfl⟩
    · have H0 := Lib.hid (decide_eq_false h0)
      obtain rfl : l = [] := List.eq_nil_of_length_eq_zero (by omega)
      clear h hg
      go_wp2
      go_ret
      exact ⟨ret_bool (by rw [Hp.out, Hg.out, H0.out]; rfl), rfl⟩

theorem impl_arePlusTerms (A : Option Addr) (c B : Nat) (l : List Int) (w : World) (h : SlI w B A l) (hl : l.length ≤ 1048576) :
    Calls Try.prog 125 #[.slice A l.length c] w fun e w' => e = .returned (.bool (posB l)) ∧ w = w' := by
  have hp : posB l = (good l && decide (0 < l.length) && allB l 1 30) := rfl
  have Hp := Lib.hid hp
  clear hp
  by_cases h0 : 0 < l.length
  · have n0 : (0 : Int) < (l.length : Int) := by omega
    have H0 := Lib.hid (decide_eq_true h0)
    go_enter Try.func125, Try.ntmps125
    go_wp2_with fail
    refine (impl_IsTermList A _ c B l _ rfl h hl).mono ?_
    rintro e w1 ⟨rfl, rfl⟩
    cases hg : good l
    · have Hg := Lib.hid hg
      clear h hg
      go_wp2
      go_ret
      exact ⟨ret_bool (by rw [Hp.out, Hg.out]; rfl), rfl⟩
    · have Hg := Lib.hid hg
      have Hm := Lib.hid (posB_min hg h0)
      clear hg
      go_wp2_with fail
      refine (slices_Min A _ c B l _ rfl h0 (by have := (good_iff.1 Hg.out).1; omega) h).mono ?_
      rintro e w1 ⟨rfl, rfl⟩
      generalize minF l (l.length - 1) = m at *
      clear h
      go_wp2
      go_ret
      exact ⟨ret_bool (by rw [Hp.out, Hg.out, H0.out, ← Hm.out]; rfl), rfl⟩
  · have H0 := Lib.hid (decide_eq_false h0)
    obtain rfl : l = [] := List.eq_nil_of_length_eq_zero (by omega)
    clear h
    go_enter Try.func125, Try.ntmps125
    go_wp2
    go_ret
    exact ⟨ret_bool (by rw [Hp.out, H0.out]; simp), rfl⟩

theorem spec_FractionOfPlus (A : Option Addr) (c B : Nat) (l : List Int) (w : World) (h : SlI w B A l) (hl : l.length ≤ 1048576) :
    Calls Try.prog 51 #[.slice A l.length c] w (FrEnd (fpR l) w) := by
  go_enter Try.func51, Try.ntmps51
  go_wp2_with fail
  refine (spec_ctPositive A c B l _ h hl).mono ?_
  rintro e w1 ⟨rfl, rfl⟩
  cases hg : posB l
  · have Hres := Lib.hid (frEnd_mk (w := w) (w' := w) (fpR_no hg) (Below.refl _ _))
    clear h
    go_wp2
    exact bodyPost_ret (v := .tuple #[.int .i64 0, .int .i64 0, .bool false]) (by simp [results, Try.results51, go_sem]) rfl Hres.out
  · have Hg := Lib.hid hg
    have Hy := Lib.hid (fpR_yes hg)
    clear hg
    obtain ⟨r1, r2, r3, hr⟩ : ∃ r1 r2 r3, frR 1 l = (r1, r2, r3) := ⟨_, _, _, rfl⟩
    have hcall := spec_ctFraction A _ c B l 1 w rfl (.inl rfl) h (good_small (posB_iff.1 Hg.out).1) (posB_iff.1 Hg.out).2.1 (good_iff.1 (posB_iff.1 Hg.out).1).1
    rw [hr] at hcall
    have Hcall := Lib.hid hcall
    have hy := Hy.out
    rw [hr] at hy
    have Hy2 := Lib.hid hy
    clear hcall hy hr Hy
    go_wp2_with fail
    refine Hcall.out.mono ?_
    rintro e w1 ⟨rfl, hb⟩
    have Hres := Lib.hid (frEnd_mk (w := w) Hy2.out hb)
    clear h hb
    go_wp2
    exact bodyPost_ret (v := .tuple #[.int .i64 r1, .int .i64 r2, .bool r3]) (by simp [results, Try.results51, go_sem]) rfl Hres.out

/-- the rest behind the first term, as the program cuts it -/
theorem tail_sl {w : World} {B b off c : Nat} {l : List Int} (h : SlI w B (some ⟨b, off, none⟩) l) (hlc : l.length ≤ c) (h1 : ¬ c = 1) : SlI w B (some ⟨b, off + 1, none⟩) (l.drop 1) := by
  have := SlI.cutIf (a0 := ⟨0, 0, none⟩) h 1 hlc
  rwa [if_neg h1] at this

set_option maxHeartbeats 800000 in
theorem impl_FractionOfPlus (A : Option Addr) (c B : Nat) (l : List Int) (w : World) (h : SlI w B A l) (hl : l.length ≤ 1048576) (hlc : l.length ≤ c) :
    Calls Try.prog 50 #[.slice A l.length c] w (FrEnd (fpR l) w) := by
  go_enter Try.func50, Try.ntmps50
  go_wp2_with fail
  refine (impl_arePlusTerms A c B l _ h hl).mono ?_
  rintro e w1 ⟨rfl, rfl⟩
  cases hg : posB l
  · have Hres := Lib.hid (frEnd_mk (w := w) (w' := w) (fpR_no hg) (Below.refl _ _))
    clear h
    go_wp2
    exact bodyPost_ret (v := .tuple #[.int .i64 0, .int .i64 0, .bool false]) (by simp [results, Try.results50, go_sem]) rfl Hres.out
  · obtain ⟨hgd, h0, hall⟩ := posB_iff.1 hg
    have hres := (fpR_yes hg).trans (frR_plus l h0 (posB_pos hg))
    have Hres := Lib.hid fun z => frEnd_mk (w := w) hres (below_drewN (Below.refl w.heap.size w) z)
    obtain ⟨b, off, rfl, hb, hc⟩ := h h0
    have h10 := (good_iff.1 hgd).1
    have hsm := good_small hgd
    have C1 : Hid (∀ w, SlI w B (some ⟨b, off, none⟩) l → Calls Try.prog 98 #[.slice (some ⟨b, off, none⟩) l.length c] w fun e w' => e = .returned (.int .i64 (ctv 1 l)) ∧ ∃ k, w' = w.drewN k) := Lib.hid fun w hw =>
      impl_plusContinuant _ _ _ B l w rfl h10 hlc hw hsm
    have H := Lib.hid h
    by_cases hc1 : c = 1
    · subst hc1
      have hl1 : l.length = 1 := by omega
      have C2 : Hid (∀ w, Calls Try.prog 98 #[.slice (some ⟨b, off, none⟩) 0 0] w fun e w' => e = .returned (.int .i64 (ctv 1 (l.drop 1))) ∧ ∃ k, w' = w.drewN k) := Lib.hid fun w =>
        impl_plusContinuant _ _ _ B (l.drop 1) w (by simp; omega) (by omega) (Nat.le_refl _) (by rw [List.drop_of_length_le (by omega)]; exact SlI.nil_) (hsm.drop 1)
      rw [hl1] at C1 ⊢
      generalize ctv 1 l = v1 at *
      generalize ctv 1 (l.drop 1) = v2 at *
      clear hres hg hgd hall hc h hsm hl1
      go_wp2
      go_quiet (first
        | (go_at_call 98; with_reducible exact Calls.quiet_of (C1.out _ (H.out.drewN _)))
        | (go_at_call 98; with_reducible exact Calls.quiet_of (C2.out _)))
      go_wp2
      exact bodyPost_ret (v := .tuple #[.int .i64 v1, .int .i64 v2, .bool true]) (by simp [results, Try.results50, go_sem]) rfl (Hres.out _)
    · have C2 : Hid (∀ w, SlI w B (some ⟨b, off, none⟩) l → Calls Try.prog 98 #[.slice (some ⟨b, off + 1, none⟩) (l.length - 1) (c - 1)] w fun e w' => e = .returned (.int .i64 (ctv 1 (l.drop 1))) ∧ ∃ k, w' = w.drewN k) := Lib.hid fun w hw =>
        impl_plusContinuant _ _ _ B (l.drop 1) w (by simp) (by omega) (by omega) (tail_sl hw hlc hc1) (hsm.drop 1)
      have n1 : (1 : Int) ≤ (l.length : Int) := by omega
      have n2 : (l.length : Int) ≤ (c : Int) := by omega
      generalize ctv 1 l = v1 at *
      generalize ctv 1 (l.drop 1) = v2 at *
      clear hres hg hgd hall hc h hsm
      go_wp2
      go_quiet (first
        | (go_at_call 98; with_reducible exact Calls.quiet_of (C1.out _ (H.out.drewN _)))
        | (go_at_call 98; with_reducible exact Calls.quiet_of (C2.out _ (H.out.drewN _))))
      go_wp2
      exact bodyPost_ret (v := .tuple #[.int .i64 v1, .int .i64 v2, .bool true]) (by simp [results, Try.results50, go_sem]) rfl (Hres.out _)

set_option maxHeartbeats 1600000 in
theorem impl_FractionOfMinus (A : Option Addr) (c B : Nat) (l : List Int) (w : World) (h : SlI w B A l) (hB : B ≤ w.heap.size) (hl : l.length ≤ 1048576) (hlc : l.length ≤ c) :
    Calls Try.prog 17 #[.slice A l.length c] w (FrEnd (fmR l) w) := by
  by_cases h0 : 0 < l.length
  · have n0 : (1 : Int) ≤ (l.length : Int) := by omega
    have n1 : ((l.length : Int) == 0) = false := by rw [beq_eq_false_iff_ne]; omega
    go_enter Try.func17, Try.ntmps17
    go_wp2_with fail
    refine (impl_IsTermList A _ c B l _ rfl h hl).mono ?_
    rintro e w1 ⟨rfl, rfl⟩
    cases hg : good l
    · have Hres := Lib.hid (frEnd_mk (w := w) (w' := w) (fmR_no (l := l) (by rw [hg]; simp)) (Below.refl _ _))
      clear h
      go_wp2
      exact bodyPost_ret (v := .tuple #[.int .i64 0, .int .i64 0, .bool false]) (by simp [results, Try.results17, go_sem]) rfl Hres.out
    · have h10 := (good_iff.1 hg).1
      have hsm := good_small hg
      have Hsm := Lib.hid hsm
      have Hy := Lib.hid ((fmR_yes hg h0).trans (frR_minus l h0))
      clear hg hsm
      go_wp2_with fail
      refine (impl_dividesByZero A _ c B l _ rfl h0 h10 hlc hB h Hsm.out).mono ?_
      rintro e w1 ⟨rfl, hb1⟩
      cases hz : divZ l
      · have hres := Hy.out
        rw [hz, if_neg (by simp)] at hres
        have hres2 := fun z => frEnd_mk (w := w) hres (below_drewN hb1 z)
        have hs1 := h.below (hb1.mono hB)
        obtain ⟨b, off, rfl, hb, hc⟩ := h h0
        have bd1 := ctv_bd (.inr rfl) l Hsm.out h10
        have bd2 := ctv_bd (.inr rfl) (l.drop 1) (Hsm.out.drop 1) (by simp; omega)
        have C1 : Hid (∀ w, SlI w B (some ⟨b, off, none⟩) l → Calls Try.prog 96 #[.slice (some ⟨b, off, none⟩) l.length c] w fun e w' => e = .returned (.int .i64 (ctv (-1) l)) ∧ ∃ k, w' = w.drewN k) := Lib.hid fun w hw =>
          impl_continuant _ _ _ B l w rfl h10 hlc hw Hsm.out
        have H := Lib.hid hs1
        unfold sgn at hres2
        by_cases hc1 : c = 1
        · subst hc1
          have hl1 : l.length = 1 := by omega
          have C2 : Hid (∀ w, Calls Try.prog 96 #[.slice (some ⟨b, off, none⟩) 0 0] w fun e w' => e = .returned (.int .i64 (ctv (-1) (l.drop 1))) ∧ ∃ k, w' = w.drewN k) := Lib.hid fun w =>
            impl_continuant _ _ _ B (l.drop 1) w (by simp; omega) (by omega) (Nat.le_refl _) (by rw [List.drop_of_length_le (by omega)]; exact SlI.nil_) (Hsm.out.drop 1)
          rw [hl1] at C1 ⊢
          generalize ctv (-1) l = v1 at *
          generalize ctv (-1) (l.drop 1) = v2 at *
          obtain ⟨p1, p2⟩ := bd1
          obtain ⟨q1, q2⟩ := bd2
          clear hres hc h hl1 Hy hs1 hb1 hz
          by_cases hneg : v2 < 0
          · simp only [if_pos hneg] at hres2
            have Hres := Lib.hid hres2
            clear hres2
            go_wp2
            go_quiet (first
              | (go_at_call 96; with_reducible exact Calls.quiet_of (C1.out _ (H.out.drewN _)))
              | (go_at_call 96; with_reducible exact Calls.quiet_of (C2.out _)))
            go_wp2
            exact bodyPost_ret (v := .tuple #[.int .i64 (-v1), .int .i64 (-v2), .bool true]) (by simp [results, Try.results17, go_sem]) rfl (Hres.out _)
          · simp only [if_neg hneg] at hres2
            have Hres := Lib.hid hres2
            clear hres2
            go_wp2
            go_quiet (first
              | (go_at_call 96; with_reducible exact Calls.quiet_of (C1.out _ (H.out.drewN _)))
              | (go_at_call 96; with_reducible exact Calls.quiet_of (C2.out _)))
            go_wp2
            exact bodyPost_ret (v := .tuple #[.int .i64 v1, .int .i64 v2, .bool true]) (by simp [results, Try.results17, go_sem]) rfl (Hres.out _)
        · have C2 : Hid (∀ w, SlI w B (some ⟨b, off, none⟩) l → Calls Try.prog 96 #[.slice (some ⟨b, off + 1, none⟩) (l.length - 1) (c - 1)] w fun e w' => e = .returned (.int .i64 (ctv (-1) (l.drop 1))) ∧ ∃ k, w' = w.drewN k) := Lib.hid fun w hw =>
            impl_continuant _ _ _ B (l.drop 1) w (by simp) (by omega) (by omega) (tail_sl hw hlc hc1) (Hsm.out.drop 1)
          have n2 : (l.length : Int) ≤ (c : Int) := by omega
          generalize ctv (-1) l = v1 at *
          generalize ctv (-1) (l.drop 1) = v2 at *
          obtain ⟨p1, p2⟩ := bd1
          obtain ⟨q1, q2⟩ := bd2
          clear hres hc h Hy hs1 hb1 hz
          by_cases hneg : v2 < 0
          · simp only [if_pos hneg] at hres2
            have Hres := Lib.hid hres2
            clear hres2
            go_wp2
            go_quiet (first
              | (go_at_call 96; with_reducible exact Calls.quiet_of (C1.out _ (H.out.drewN _)))
              | (go_at_call 96; with_reducible exact Calls.quiet_of (C2.out _ (H.out.drewN _))))
            go_wp2
            exact bodyPost_ret (v := .tuple #[.int .i64 (-v1), .int .i64 (-v2), .bool true]) (by simp [results, Try.results17, go_sem]) rfl (Hres.out _)
          · simp only [if_neg hneg] at hres2
            have Hres := Lib.hid hres2
            clear hres2
            go_wp2
            go_quiet (first
              | (go_at_call 96; with_reducible exact Calls.quiet_of (C1.out _ (H.out.drewN _)))
              | (go_at_call 96; with_reducible exact Calls.quiet_of (C2.out _ (H.out.drewN _))))
            go_wp2
            exact bodyPost_ret (v := .tuple #[.int .i64 v1, .int .i64 v2, .bool true]) (by simp [results, Try.results17, go_sem]) rfl (Hres.out _)
      · have hres := Hy.out
        rw [hz, if_pos rfl] at hres
        have Hres := Lib.hid (frEnd_mk (w := w) hres hb1)
        clear hres h hb1 Hy hz
        go_wp2
        exact bodyPost_ret (v := .tuple #[.int .i64 0, .int .i64 0, .bool false]) (by simp [results, Try.results17, go_sem]) rfl Hres.out
  · have Hres := Lib.hid (frEnd_mk (w := w) (w' := w) (fmR_no (l := l) (fun e => h0 e.2)) (Below.refl _ _))
    obtain rfl : l = [] := List.eq_nil_of_length_eq_zero (by omega)
    clear h
    go_enter Try.func17, Try.ntmps17
    go_wp2
    exact bodyPost_ret (v := .tuple #[.int .i64 0, .int .i64 0, .bool false]) (by simp [results, Try.results17, go_sem]) rfl Hres.out

end Go.Proofs.Ytfkkbjbgjmaciaa

/- TermS: Terms of fractions: the model's and the program's loops. -/
namespace Go.Proofs.Ytfkkbjbgjmaciaa
open Go.RowKit

/-- where the terms of a fraction are none or a list -/
def tmR (R : Option (List Int)) : List Int := R.getD []
theorem retT_no {R : Option (List Int)} {w w' : World} (h : R = none) (hb : Below w.heap.size w w') : RetI w (tmR R) R.isSome (.returned (.tuple #[.slice none 0 0, .bool false])) w' := by
  subst h
  exact ⟨none, 0, rfl, World.ownsRow_nil _ _ _ _, hb⟩
theorem retT_yes {R : Option (List Int)} {out : List Int} {n : Nat} {w w' : World} {A : Option Addr} {c : Nat} (h : R = some out) (hn : out.length = n) (ho : w'.ownsRow w.heap.size 3 1 (.slice A n c) n (ics out)) (hb : Below w.heap.size w w') :
    RetI w (tmR R) R.isSome (.returned (.tuple #[.slice A n c, .bool true])) w' := by
  subst h
  subst hn
  exact ⟨A, c, rfl, ho, hb⟩
theorem tmF_zero (rd : Int → Int → Int × Int) (f : Nat) (num : Int) (out : List Int) : tmF rd (f + 1) num 0 out = some out := by
  unfold tmF
  rw [if_pos rfl]
theorem tmF_bad (rd : Int → Int → Int × Int) (f : Nat) (num den : Int) (out : List Int) (h : den ≠ 0) (hg : good (out ++ [(rd num den).1]) = false) : tmF rd (f + 1) num den out = none := by
  conv => lhs; unfold tmF
  rw [if_neg h, if_neg (by rw [hg]; simp)]
theorem tmF_more (rd : Int → Int → Int × Int) (f : Nat) (num den : Int) (out : List Int) (h : den ≠ 0) (hg : good (out ++ [(rd num den).1]) = true) : tmF rd (f + 1) num den out = tmF rd f den (rd num den).2 (out ++ [(rd num den).1]) := by
  conv => lhs; unfold tmF
  rw [if_neg h, if_pos hg]

/-- how long a slice is -/
def lenS : Value → Nat
  | .slice _ n _ => n
  | _ => 0

theorem coB_iff {a b : Int} : coB a b = true ↔ (1 ≤ a ∧ a ≤ 1000000) ∧ (1 ≤ b ∧ b ≤ 1000000) ∧ Nat.gcd a.toNat b.toNat = 1 := by
  unfold coB
  rw [Bool.and_eq_true, Bool.and_eq_true, decide_eq_true_eq, decide_eq_true_eq, decide_eq_true_eq, and_assoc]

set_option maxHeartbeats 800000 in
theorem impl_isRatio (a b : Int) (w : World) :
    Calls Try.prog 120 #[.int .i64 a, .int .i64 b] w fun e w' => e = .returned (.bool (coB a b)) ∧ Below w.heap.size w w' := by
  by_cases a1 : 1 ≤ a
  · by_cases b1 : 1 ≤ b
    · have hE : coB a b = nbB a b := by
        rw [Bool.eq_iff_iff, coB_iff, nbB_iff]
        omega
      have HE := Lib.hid hE
      have hn := impl_IsFraction a b
      have Hn := Lib.hid hn
      clear hE hn
      generalize nbB a b = r at *
      go_enter Try.func120, Try.ntmps120
      go_wp2_with fail
      refine (Hn.out _).mono ?_
      rintro e w1 ⟨rfl, hb⟩
      have HD := Lib.hid hb
      clear hb
      go_wp2
      go_ret
      exact ⟨ret_bool HE.out.symm, (by first | exact HD.out | exact (below_one _ _).trans (HD.out.mono (by simp)))⟩
    · have HE := Lib.hid (show coB a b = false by rw [Bool.eq_false_iff]; intro e; exact b1 (coB_iff.1 e).2.1.1)
      go_enter Try.func120, Try.ntmps120
      go_wp2
      go_ret
      exact ⟨ret_bool HE.out.symm, Below.refl _ _⟩
  · have HE := Lib.hid (show coB a b = false by rw [Bool.eq_false_iff]; intro e; exact a1 (coB_iff.1 e).1.1)
    go_enter Try.func120, Try.ntmps120
    go_wp2
    go_ret
    exact ⟨ret_bool HE.out.symm, Below.refl _ _⟩

theorem inB_iff1 {n lo hi : Int} : inB n lo hi = true ↔ lo ≤ n ∧ n ≤ hi := by unfold inB; simp
set_option maxHeartbeats 800000 in
theorem spec_ctPair (a b : Int) (w : World) :
    Calls Try.prog 119 #[.int .i64 a, .int .i64 b] w fun e w' => e = .returned (.bool (coB a b)) ∧ Below w.heap.size w w' := by
  go_enter Try.func119, Try.ntmps119
  go_wp2_with fail
  refine (spec_l1In' _ _ _ _).mono ?_
  rintro e w1 ⟨rfl, rfl⟩
  cases ha : inB a 1 1000000
  · have HE := Lib.hid (show coB a b = false by rw [Bool.eq_false_iff]; intro e; rw [inB_iff1.2 (coB_iff.1 e).1] at ha; cases ha)
    clear ha
    go_wp2
    go_ret
    exact ⟨ret_bool HE.out.symm, Below.refl _ _⟩
  · go_wp2_with fail
    refine (spec_l1In' _ _ _ _).mono ?_
    rintro e w1 ⟨rfl, rfl⟩
    cases hbb : inB b 1 1000000
    · have HE := Lib.hid (show coB a b = false by rw [Bool.eq_false_iff]; intro e; rw [inB_iff1.2 (coB_iff.1 e).2.1] at hbb; cases hbb)
      clear ha hbb
      go_wp2
      go_ret
      exact ⟨ret_bool HE.out.symm, Below.refl _ _⟩
    · obtain ⟨a1, a2⟩ := inB_iff1.1 ha
      obtain ⟨b1, b2⟩ := inB_iff1.1 hbb
      obtain ⟨x0, rfl⟩ := Int.eq_ofNat_of_zero_le (show 0 ≤ a by omega)
      obtain ⟨y0, rfl⟩ := Int.eq_ofNat_of_zero_le (show 0 ≤ b by omega)
      have hE : coB (x0 : Int) (y0 : Int) = decide (((Nat.gcd x0 y0 : Nat) : Int) = 1) := by
        rw [Bool.eq_iff_iff, coB_iff, decide_eq_true_eq]
        simp only [Int.toNat_natCast]
        omega
      have HE := Lib.hid hE
      clear hE ha hbb
      have x6 : x0 ≤ 1000000 := by omega
      have y6 : y0 ≤ 1000000 := by omega
      go_wp2
      go_loopw [0, 1] (fun p q wr => ∃ x y : Nat, x ≤ 1000000 ∧ y ≤ 1000000 ∧ p = .int .i64 x ∧ q = .int .i64 y ∧ Nat.gcd x y = Nat.gcd x0 y0 ∧ Below w.heap.size w wr) (fun _ q _ => (intOf q).toNat)
      case atStart => exact ⟨x0, y0, x6, y6, rfl, rfl, rfl, Below.refl _ _⟩
      case round =>
        clear a1 a2 b1 b2
        obtain ⟨x, y, hx, hy, rfl, rfl, hg, hb⟩ := hrel
        by_cases h0 : 0 < y
        · have hst := gcd_step x y h0
          have hlt := Nat.mod_lt x h0
          have hE : Nat.gcd y (x % y) = Nat.gcd x0 y0 := hst.trans hg
          have HE1 := Lib.hid hE
          have y1 : (0 : Int) < (y : Int) := by omega
          have y2 : ¬ y = 0 := by omega
          have x1 : (0 : Int) ≤ (x : Int) := by omega
          have Hlt := Lib.hid hlt
          have hm1 : (x : Int).tmod (y : Int) = ((x % y : Nat) : Int) := rfl
          have hm2 : (x : Int) % (y : Int) = ((x % y : Nat) : Int) := rfl
          clear hst hg hlt hE
          generalize x % y = r at *
          go_wp2
          go_quiet (fail)
          clear hm1 hm2
          go_wp2
          go_roundw
          case rel => exact ⟨y, r, hy, by have := Hlt.out; omega, rfl, rfl, HE1.out, below_drewN hb _⟩
          case measure => have := Hlt.out; simp [intOf]; omega
        · obtain rfl : y = 0 := by omega
          have hE : Nat.gcd x0 y0 = x := by rw [← hg, Nat.gcd_zero_right]
          have HE2 := Lib.hid (HE.out.trans (by rw [hE]))
          clear hE hg HE
          go_wp2
          go_ret
          exact ⟨ret_bool (by rw [HE2.out]; rw [Bool.eq_iff_iff]; simp), hb⟩

set_option maxHeartbeats 800000 in
theorem impl_roundUp (num den : Int) (w : World) (hn : 0 ≤ num ∧ num ≤ 819628286980801) (hd : 1 ≤ den ∧ den ≤ 819628286980801) :
    Calls Try.prog 122 #[.int .i64 num, .int .i64 den] w fun e w' => e = .returned (.tuple #[.int .i64 (upI num den).1, .int .i64 (upI num den).2]) ∧ w = w' := by
  obtain ⟨u1, u2, u3, u4, u5⟩ := up_bd hn hd
  obtain ⟨n1, n2⟩ := hn
  obtain ⟨d1, d2⟩ := hd
  have s1 : 0 ≤ num + den - 1 := by omega
  have d3 : ¬ den = 0 := by omega
  have d4 : (den == 0) = false := by rw [beq_eq_false_iff_ne]; omega
  go_enter Try.func122, Try.ntmps122
  go_wp2
  go_ret2
  exact ⟨rfl, rfl⟩

theorem impl_roundDown (num den : Int) (w : World) (hn : 0 ≤ num ∧ num ≤ 819628286980801) (hd : 1 ≤ den ∧ den ≤ 819628286980801) :
    Calls Try.prog 124 #[.int .i64 num, .int .i64 den] w fun e w' => e = .returned (.tuple #[.int .i64 (dnI num den).1, .int .i64 (dnI num den).2]) ∧ ∃ k, w' = w.drewN k := by
  obtain ⟨u1, u2, u3, u4⟩ := dn_bd hn hd
  obtain ⟨n1, n2⟩ := hn
  obtain ⟨d1, d2⟩ := hd
  have d3 : ¬ den = 0 := by omega
  have d4 : (den == 0) = false := by rw [beq_eq_false_iff_ne]; omega
  have dd : dnI num den = (num / den, num % den) := rfl
  have t1 : num.tdiv den = num / den := Int.tdiv_eq_ediv_of_nonneg n1
  have t2 : num.tmod den = num % den := Int.tmod_eq_emod_of_nonneg n1
  have w1 : IntKind.i64.wrap (num / den) = num / den := IntWalk.i64_in _ (by omega)
  have w2 : IntKind.i64.wrap (num % den) = num % den := IntWalk.i64_in _ (by omega)
  have Dd := Lib.hid dd
  clear dd
  go_enter Try.func124, Try.ntmps124
  go_wp2
  go_quiet (fail)
  clear t1 t2 w1 w2
  go_wp2
  go_ret2
  refine ⟨?_, _, rfl⟩
  rw [Dd.out]
  rfl

set_option maxRecDepth 100000 in
set_option maxHeartbeats 3200000 in
theorem impl_terms_up (num den : Int) (w : World) (hn : 0 ≤ num ∧ num ≤ 819628286980801) (hd : 0 ≤ den ∧ den ≤ 819628286980801) :
    Calls Try.prog 121 #[.int .i64 num, .int .i64 den, .func (.func 122) #[] #[]] w (RetI w (tmR (tmF upI 12 num den [])) (tmF upI 12 num den []).isSome) := by
  obtain ⟨R, hR⟩ : ∃ R, tmF upI 12 num den [] = R := ⟨_, rfl⟩
  rw [hR]
  have HR := Lib.hid hR
  have Hn := Lib.hid hn
  have Hd := Lib.hid hd
  clear hR hn hd
  go_enter Try.func121, Try.ntmps121
  go_wp2
  go_loopw [0, 1, 8, 9, 10] (fun p q v _ _ wr => ∃ (f n : Nat) (nu de : Int) (out : List Int) (A' : Option Addr) (c' : Nat), n ≤ 10 ∧ n + f = 12 ∧ out.length = n ∧ (0 ≤ nu ∧ nu ≤ 819628286980801) ∧ (0 ≤ de ∧ de ≤ 819628286980801) ∧ p = .int .i64 nu ∧ q = .int .i64 de ∧ v = .slice A' n c' ∧
      wr.ownsRow w.heap.size 3 1 (.slice A' n c') n (ics out) ∧ Below w.heap.size w wr ∧ tmF upI f nu de out = R) (fun _ _ v _ _ _ => 12 - lenS v)
  case atStart => exact ⟨12, 0, num, den, [], none, 0, by omega, rfl, rfl, Hn.out, Hd.out, rfl, rfl, rfl, World.ownsRow_nil _ _ _ _, Below.refl _ _, HR.out⟩
  case round =>
    clear HR Hn Hd
    obtain ⟨f, n, nu, de, out, A', c', hn10, hf, hol, ⟨nu1, nu2⟩, ⟨de1, de2⟩, rfl, rfl, rfl, ho, hb, hR⟩ := hrel
    obtain ⟨f', rfl⟩ : ∃ f', f = f' + 1 := ⟨f - 1, by omega⟩
    have hob := ho.lt
    have Hob := Lib.hid hob
    have hsz := hb.size
    clear hob
    by_cases h0 : de = 0
    · subst h0
      have hE := retT_yes (w := w) (w' := wr) (hR.symm.trans (tmF_zero upI f' nu out)) hol ho hb
      have HE := Lib.hid hE
      clear hE ho hb hR hol
      go_wp2
      go_ret2
      exact HE.out
    · have hbad := tmF_bad upI f' nu de out h0
      have hmore := tmF_more upI f' nu de out h0
      rw [hR] at hbad hmore
      have ub := up_bd ⟨nu1, nu2⟩ (show 1 ≤ de ∧ de ≤ 819628286980801 by omega)
      have hr2 : 0 ≤ (upI nu de).2 ∧ (upI nu de).2 < de := by unfold upI; dsimp only; omega
      have d0 : (de != 0) = true := by rw [bne_iff_ne]; exact h0
      have d1 : 1 ≤ de := by omega
      obtain ⟨t, r, htr⟩ : ∃ t r, upI nu de = (t, r) := ⟨_, _, rfl⟩
      have hcall := fun w => impl_roundUp nu de w ⟨nu1, nu2⟩ ⟨d1, de2⟩
      rw [htr] at hbad hmore hr2 hcall
      have Hbad := Lib.hid hbad
      have Hmore := Lib.hid hmore
      have Hr2 := Lib.hid hr2
      have Hcall := Lib.hid hcall
      have Ho := Lib.hid ho
      have Hb := Lib.hid hb
      have Hol := Lib.hid hol
      have Hol1 : Hid ((out ++ [t]).length = n + 1) := Lib.hid (by rw [List.length_append, hol]; rfl)
      clear hbad hmore hr2 hcall htr ub hR ho hb hol
      go_wp2_with fail
      refine (Hcall.out _).mono ?_
      rintro e w2 ⟨rfl, rfl⟩
      have own2 := Ho.out.alloc (.cells #[.int .i64 t] 3)
      have hb2 := Hb.out.alloc hsz (.cells #[.int .i64 t] 3)
      have Hb2 := Lib.hid hb2
      clear hb2
      go_wp2_with (at_builtin; refine append1In _ rfl _ _ rfl w.heap.size (.slice A' n c') n out Hol.out rfl own2 wr.heap.size t rfl ?c1 ?c2 Hb2.out.size ?_; (case c1 => simp [go_sem]); (case c2 => omega); intro A3 c3 w3 own3 hg3)
      have hb3 := below_grown Hb2.out hg3 (Nat.le_refl _) (fun j hj => (Hob.out j hj).1)
      have hs3 := SlI.of_own (l := out ++ [t]) own3
      have Hb3 := Lib.hid hb3
      clear hg3 own2 hb3
      refine (impl_IsTermList _ (n + 1) c3 _ (out ++ [t]) _ Hol1.out hs3 (by omega)).mono ?_
      rintro e w4 ⟨rfl, rfl⟩
      cases hg : good (out ++ [t])
      · have hE := retT_no (w := w) (Hbad.out hg) Hb3.out
        have HE := Lib.hid hE
        clear hE hg hs3 own3
        go_wp2
        go_ret2
        exact HE.out
      · have hn9 : n ≤ 9 := by have := (good_iff.1 hg).1; have := Hol1.out; omega
        have HE := Lib.hid (Hmore.out hg)
        clear hg hs3
        go_wp2
        go_roundw
        case rel => exact ⟨f', n + 1, de, r, out ++ [t], A3, c3, by omega, by omega, Hol1.out, ⟨by omega, de2⟩, ⟨Hr2.out.1, by have := Hr2.out.2; omega⟩, rfl, rfl, rfl, own3, Hb3.out, HE.out.symm⟩
        case measure => simp [lenS]; omega

set_option maxRecDepth 100000 in
set_option maxHeartbeats 3200000 in
theorem impl_terms_dn (num den : Int) (w : World) (hn : 0 ≤ num ∧ num ≤ 819628286980801) (hd : 0 ≤ den ∧ den ≤ 819628286980801) :
    Calls Try.prog 121 #[.int .i64 num, .int .i64 den, .func (.func 124) #[] #[]] w (RetI w (tmR (tmF dnI 12 num den [])) (tmF dnI 12 num den []).isSome) := by
  obtain ⟨R, hR⟩ : ∃ R, tmF dnI 12 num den [] = R := ⟨_, rfl⟩
  rw [hR]
  have HR := Lib.hid hR
  have Hn := Lib.hid hn
  have Hd := Lib.hid hd
  clear hR hn hd
  go_enter Try.func121, Try.ntmps121
  go_wp2
  go_loopw [0, 1, 8, 9, 10] (fun p q v _ _ wr => ∃ (f n : Nat) (nu de : Int) (out : List Int) (A' : Option Addr) (c' : Nat), n ≤ 10 ∧ n + f = 12 ∧ out.length = n ∧ (0 ≤ nu ∧ nu ≤ 819628286980801) ∧ (0 ≤ de ∧ de ≤ 819628286980801) ∧ p = .int .i64 nu ∧ q = .int .i64 de ∧ v = .slice A' n c' ∧
      wr.ownsRow w.heap.size 3 1 (.slice A' n c') n (ics out) ∧ Below w.heap.size w wr ∧ tmF dnI f nu de out = R) (fun _ _ v _ _ _ => 12 - lenS v)
  case atStart => exact ⟨12, 0, num, den, [], none, 0, by omega, rfl, rfl, Hn.out, Hd.out, rfl, rfl, rfl, World.ownsRow_nil _ _ _ _, Below.refl _ _, HR.out⟩
  case round =>
    clear HR Hn Hd
    obtain ⟨f, n, nu, de, out, A', c', hn10, hf, hol, ⟨nu1, nu2⟩, ⟨de1, de2⟩, rfl, rfl, rfl, ho, hb, hR⟩ := hrel
    obtain ⟨f', rfl⟩ : ∃ f', f = f' + 1 := ⟨f - 1, by omega⟩
    have hob := ho.lt
    have Hob := Lib.hid hob
    have hsz := hb.size
    clear hob
    by_cases h0 : de = 0
    · subst h0
      have hE := retT_yes (w := w) (w' := wr) (hR.symm.trans (tmF_zero dnI f' nu out)) hol ho hb
      have HE := Lib.hid hE
      clear hE ho hb hR hol
      go_wp2
      go_ret2
      exact HE.out
    · have hbad := tmF_bad dnI f' nu de out h0
      have hmore := tmF_more dnI f' nu de out h0
      rw [hR] at hbad hmore
      have ub := dn_bd ⟨nu1, nu2⟩ (show 1 ≤ de ∧ de ≤ 819628286980801 by omega)
      have hr2 : 0 ≤ (dnI nu de).2 ∧ (dnI nu de).2 < de := by unfold dnI; dsimp only; omega
      have d0 : (de != 0) = true := by rw [bne_iff_ne]; exact h0
      have d1 : 1 ≤ de := by omega
      obtain ⟨t, r, htr⟩ : ∃ t r, dnI nu de = (t, r) := ⟨_, _, rfl⟩
      have hcall := fun w => impl_roundDown nu de w ⟨nu1, nu2⟩ ⟨d1, de2⟩
      rw [htr] at hbad hmore hr2 hcall
      have Hbad := Lib.hid hbad
      have Hmore := Lib.hid hmore
      have Hr2 := Lib.hid hr2
      have Hcall := Lib.hid hcall
      have Ho := Lib.hid ho
      have Hb := Lib.hid hb
      have Hol := Lib.hid hol
      have Hol1 : Hid ((out ++ [t]).length = n + 1) := Lib.hid (by rw [List.length_append, hol]; rfl)
      clear hbad hmore hr2 hcall htr ub hR ho hb hol
      go_wp2_with fail
      refine (Hcall.out _).mono ?_
      rintro e w2 ⟨rfl, z, hz⟩
      have own1 := own_drewN Ho.out z
      have hb1 := below_drewN Hb.out z
      rw [← hz] at own1 hb1
      have own2 := own1.alloc (.cells #[.int .i64 t] 3)
      have hb2 := hb1.alloc hb1.size (.cells #[.int .i64 t] 3)
      clear hz own1 hb1
      have Hb2 := Lib.hid hb2
      clear hb2
      go_wp2_with (at_builtin; refine append1In _ rfl _ _ rfl w.heap.size (.slice A' n c') n out Hol.out rfl own2 w2.heap.size t rfl ?c1 ?c2 Hb2.out.size ?_; (case c1 => simp [go_sem]); (case c2 => omega); intro A3 c3 w3 own3 hg3)
      have hb3 := below_grown Hb2.out hg3 (Nat.le_refl _) (fun j hj => (Hob.out j hj).1)
      have hs3 := SlI.of_own (l := out ++ [t]) own3
      have Hb3 := Lib.hid hb3
      clear hg3 own2 hb3
      refine (impl_IsTermList _ (n + 1) c3 _ (out ++ [t]) _ Hol1.out hs3 (by omega)).mono ?_
      rintro e w4 ⟨rfl, rfl⟩
      cases hg : good (out ++ [t])
      · have hE := retT_no (w := w) (Hbad.out hg) Hb3.out
        have HE := Lib.hid hE
        clear hE hg hs3 own3
        go_wp2
        go_ret2
        exact HE.out
      · have hn9 : n ≤ 9 := by have := (good_iff.1 hg).1; have := Hol1.out; omega
        have HE := Lib.hid (Hmore.out hg)
        clear hg hs3
        go_wp2
        go_roundw
        case rel => exact ⟨f', n + 1, de, r, out ++ [t], A3, c3, by omega, by omega, Hol1.out, ⟨by omega, de2⟩, ⟨Hr2.out.1, by have := Hr2.out.2; omega⟩, rfl, rfl, rfl, own3, Hb3.out, HE.out.symm⟩
        case measure => simp [lenS]; omega

set_option maxRecDepth 100000 in
set_option maxHeartbeats 3200000 in
theorem spec_ctMinus (num den : Int) (w : World) (hn : 0 ≤ num ∧ num ≤ 819628286980801) (hd : 1 ≤ den ∧ den ≤ 819628286980801) :
    Calls Try.prog 123 #[.int .i64 num, .int .i64 den] w (RetI w (tmR (tmF upI 12 num den [])) (tmF upI 12 num den []).isSome) := by
  obtain ⟨R, hR⟩ : ∃ R, tmF upI 12 num den [] = R := ⟨_, rfl⟩
  rw [hR]
  have HR := Lib.hid hR
  have Hn := Lib.hid hn
  have Hd := Lib.hid hd
  clear hR hn hd
  go_enter Try.func123, Try.ntmps123
  go_wp2
  go_loopw [0, 1, 6, 7, 8] (fun p q v _ _ wr => ∃ (f n : Nat) (nu de : Int) (out : List Int) (A' : Option Addr) (c' : Nat), n ≤ 10 ∧ n + f = 12 ∧ out.length = n ∧ (0 ≤ nu ∧ nu ≤ 819628286980801) ∧ (1 ≤ de ∧ de ≤ 819628286980801) ∧ p = .int .i64 nu ∧ q = .int .i64 de ∧ v = .slice A' n c' ∧
      wr.ownsRow w.heap.size 3 1 (.slice A' n c') n (ics out) ∧ Below w.heap.size w wr ∧ tmF upI f nu de out = R) (fun _ _ v _ _ _ => 12 - lenS v)
  case atStart => exact ⟨12, 0, num, den, [], none, 0, by omega, rfl, rfl, Hn.out, Hd.out, rfl, rfl, rfl, World.ownsRow_nil _ _ _ _, Below.refl _ _, HR.out⟩
  case round =>
    clear HR Hn Hd
    obtain ⟨f, n, nu, de, out, A', c', hn10, hf, hol, ⟨nu1, nu2⟩, ⟨de1, de2⟩, rfl, rfl, rfl, ho, hb, hR⟩ := hrel
    obtain ⟨f', rfl⟩ : ∃ f', f = f' + 1 := ⟨f - 1, by omega⟩
    have hob := ho.lt
    have Hob := Lib.hid hob
    have hsz := hb.size
    clear hob
    have hbad := tmF_bad upI f' nu de out (by omega)
    have hmore := tmF_more upI f' nu de out (by omega)
    rw [hR] at hbad hmore
    obtain ⟨u1, u2, u3, u4, u5⟩ := up_bd ⟨nu1, nu2⟩ (show 1 ≤ de ∧ de ≤ 819628286980801 by omega)
    have d3 : ¬ de = 0 := by omega
    have d4 : (de == 0) = false := by rw [beq_eq_false_iff_ne]; omega
    have s1 : 0 ≤ nu + de - 1 := by omega
    have e1 : (upI nu de).1 = (nu + de - 1) / de := rfl
    have e2 : (upI nu de).2 = (nu + de - 1) / de * de - nu := rfl
    rw [e1] at hbad hmore
    rw [e2] at hmore
    have Hbad := Lib.hid hbad
    have Hmore := Lib.hid hmore
    have Ho := Lib.hid ho
    have Hb := Lib.hid hb
    have Hol := Lib.hid hol
    have Hol1 : Hid ((out ++ [(nu + de - 1) / de]).length = n + 1) := Lib.hid (by rw [List.length_append, hol]; rfl)
    clear hbad hmore e1 e2 hR ho hb hol
    have own2 := Ho.out.alloc (.cells #[.int .i64 ((nu + de - 1) / de)] 3)
    have hb2 := Hb.out.alloc hsz (.cells #[.int .i64 ((nu + de - 1) / de)] 3)
    have Hb2 := Lib.hid hb2
    clear hb2
    go_wp2_with (at_builtin; refine append1In _ rfl _ _ rfl w.heap.size (.slice A' n c') n out Hol.out rfl own2 wr.heap.size ((nu + de - 1) / de) rfl ?c1 ?c2 Hb2.out.size ?_; (case c1 => simp [go_sem]); (case c2 => omega); intro A3 c3 w3 own3 hg3)
    have hb3 := below_grown Hb2.out hg3 (Nat.le_refl _) (fun j hj => (Hob.out j hj).1)
    have hs3 := SlI.of_own (l := out ++ [(nu + de - 1) / de]) own3
    have Hb3 := Lib.hid hb3
    clear hg3 own2 hb3
    refine (spec_ctGood _ (n + 1) c3 _ (out ++ [(nu + de - 1) / de]) _ Hol1.out hs3 (by omega)).mono ?_
    rintro e w4 ⟨rfl, rfl⟩
    cases hg : good (out ++ [(nu + de - 1) / de])
    · have hE := retT_no (w := w) (Hbad.out hg) Hb3.out
      have HE := Lib.hid hE
      clear hE hg hs3 own3
      go_wp2
      go_ret2
      exact HE.out
    · have hn9 : n ≤ 9 := by have := (good_iff.1 hg).1; have := Hol1.out; omega
      have hE := Hmore.out hg
      clear hg hs3
      by_cases h0 : (nu + de - 1) / de * de - nu = 0
      · obtain ⟨f2, rfl⟩ : ∃ f2, f' = f2 + 1 := ⟨f' - 1, by omega⟩
        rw [h0, tmF_zero] at hE
        have hF := retT_yes (w := w) hE Hol1.out own3 Hb3.out
        have HF := Lib.hid hF
        have h0b : ((nu + de - 1) / de * de - nu == 0) = true := by rw [h0]; rfl
        clear hE hF own3 h0
        go_wp2
        go_ret2
        exact HF.out
      · have h0b : ((nu + de - 1) / de * de - nu == 0) = false := by rw [beq_eq_false_iff_ne]; exact h0
        have HE := Lib.hid hE
        have r1 : 1 ≤ (nu + de - 1) / de * de - nu := by omega
        clear hE
        go_wp2
        go_roundw
        case rel => exact ⟨f', n + 1, de, _, _, A3, c3, by omega, by omega, Hol1.out, ⟨by omega, de2⟩, ⟨r1, by omega⟩, rfl, rfl, rfl, own3, Hb3.out, HE.out.symm⟩
        case measure => simp [lenS]; omega
end Go.Proofs.Ytfkkbjbgjmaciaa

/- TermW: MinusTerms, PlusTerms, MinusOfPlus: the model's and the program's contracts, and the laws' walks. -/
namespace Go.Proofs.Ytfkkbjbgjmaciaa
open Go.RowKit

def mtR (a b : Int) : Option (List Int) := if coB a b = true then tmF upI 12 a b [] else none
def ptR (a b : Int) : Option (List Int) := if coB a b = true ∧ b ≤ a then tmF dnI 12 a b [] else none
def mpR (l : List Int) : Option (List Int) := if posB l = true then tmF upI 12 (ctv 1 l) (ctv 1 (l.drop 1)) [] else none
theorem tmR_length {R : Option (List Int)} (h : ∀ r, R = some r → r.length ≤ 10) : (tmR R).length ≤ 1000000000 := by
  unfold tmR
  cases R with
  | none => simp
  | some r =>
    have := h r rfl
    simp only [Option.getD_some]
    omega
theorem mtR_length (a b : Int) : (tmR (mtR a b)).length ≤ 1000000000 := tmR_length fun r h => by
  unfold mtR at h
  split at h
  · exact tmF_len _ _ _ _ [] _ (by simp) h
  · cases h
theorem ptR_length (a b : Int) : (tmR (ptR a b)).length ≤ 1000000000 := tmR_length fun r h => by
  unfold ptR at h
  split at h
  · exact tmF_len _ _ _ _ [] _ (by simp) h
  · cases h
theorem mpR_length (l : List Int) : (tmR (mpR l)).length ≤ 1000000000 := tmR_length fun r h => by
  unfold mpR at h
  split at h
  · exact tmF_len _ _ _ _ [] _ (by simp) h
  · cases h

set_option maxHeartbeats 800000 in
theorem spec_MinusTerms (a b : Int) (w : World) : Calls Try.prog 46 #[.int .i64 a, .int .i64 b] w (RetI w (tmR (mtR a b)) (mtR a b).isSome) := by
  go_enter Try.func46, Try.ntmps46
  go_wp2_with fail
  refine (spec_ctPair a b _).mono ?_
  rintro e w1 ⟨rfl, hb1⟩
  cases hc : coB a b
  · have hE := retT_no (R := mtR a b) (w := w) (by unfold mtR; rw [hc]; simp) hb1
    have HE := Lib.hid hE
    clear hE hb1
    go_wp2
    go_ret2
    exact HE.out
  · obtain ⟨⟨a1, a2⟩, ⟨b1, b2⟩, _⟩ := coB_iff.1 hc
    have hR : mtR a b = tmF upI 12 a b [] := by unfold mtR; rw [hc]; simp
    have HR := Lib.hid hR
    have Hb1 := Lib.hid hb1
    clear hR hb1 hc
    go_wp2_with fail
    refine (spec_ctMinus a b _ ⟨by omega, by omega⟩ ⟨by omega, by omega⟩).mono ?_
    rintro e w2 ⟨A2, c2, rfl, o2, b2⟩
    rw [← HR.out] at o2 ⊢
    generalize mtR a b = R at *
    have hE : RetI w (tmR R) R.isSome (.returned (.tuple #[.slice A2 (tmR R).length c2, .bool R.isSome])) w2 := ⟨A2, c2, rfl, o2.mono Hb1.out.size, below_kept Hb1.out (Nat.le_refl _) b2⟩
    have HE := Lib.hid hE
    clear hE o2 b2
    generalize (tmR R).length = z at *
    go_wp2
    go_ret2
    exact HE.out

set_option maxHeartbeats 800000 in
theorem impl_MinusTerms (a b : Int) (w : World) : Calls Try.prog 45 #[.int .i64 a, .int .i64 b] w (RetI w (tmR (mtR a b)) (mtR a b).isSome) := by
  go_enter Try.func45, Try.ntmps45
  go_wp2_with fail
  refine (impl_isRatio a b _).mono ?_
  rintro e w1 ⟨rfl, hb1⟩
  cases hc : coB a b
  · have hE := retT_no (R := mtR a b) (w := w) (by unfold mtR; rw [hc]; simp) hb1
    have HE := Lib.hid hE
    clear hE hb1
    go_wp2
    go_ret2
    exact HE.out
  · obtain ⟨⟨a1, a2⟩, ⟨b1, b2⟩, _⟩ := coB_iff.1 hc
    have hR : mtR a b = tmF upI 12 a b [] := by unfold mtR; rw [hc]; simp
    have HR := Lib.hid hR
    have Hb1 := Lib.hid hb1
    clear hR hb1 hc
    go_wp2_with fail
    refine (impl_terms_up a b _ ⟨by omega, by omega⟩ ⟨by omega, by omega⟩).mono ?_
    rintro e w2 ⟨A2, c2, rfl, o2, b2⟩
    rw [← HR.out] at o2 ⊢
    generalize mtR a b = R at *
    have hE : RetI w (tmR R) R.isSome (.returned (.tuple #[.slice A2 (tmR R).length c2, .bool R.isSome])) w2 := ⟨A2, c2, rfl, o2.mono Hb1.out.size, below_kept Hb1.out (Nat.le_refl _) b2⟩
    have HE := Lib.hid hE
    clear hE o2 b2
    generalize (tmR R).length = z at *
    go_wp2
    go_ret2
    exact HE.out

set_option maxHeartbeats 800000 in
theorem spec_PlusTerms (a b : Int) (w : World) : Calls Try.prog 48 #[.int .i64 a, .int .i64 b] w (RetI w (tmR (ptR a b)) (ptR a b).isSome) := by
  go_enter Try.func48, Try.ntmps48
  go_wp2_with fail
  refine (spec_ctPair a b _).mono ?_
  rintro e w1 ⟨rfl, hb1⟩
  cases hc : coB a b
  · have hE := retT_no (R := ptR a b) (w := w) (by unfold ptR; rw [hc]; simp) hb1
    have HE := Lib.hid hE
    clear hE hb1
    go_wp2
    go_ret2
    exact HE.out
  · obtain ⟨⟨a1, a2⟩, ⟨b1, b2⟩, _⟩ := coB_iff.1 hc
    by_cases hlt : a < b
    · have hE := retT_no (R := ptR a b) (w := w) (if_neg (fun e => by omega)) hb1
      have HE := Lib.hid hE
      clear hE hb1
      go_wp2
      go_ret2
      exact HE.out
    · have hR : ptR a b = tmF dnI 12 a b [] := if_pos ⟨hc, by omega⟩
      have HR := Lib.hid hR
      have Hb1 := Lib.hid hb1
      clear hR hb1 hc
      generalize ptR a b = R at *
      go_wp2
      go_loopw [0, 1, 6] (fun p q v wr => ∃ (f n : Nat) (nu de : Int) (out : List Int) (A' : Option Addr) (c' : Nat), n ≤ 10 ∧ n + f = 12 ∧ out.length = n ∧ (0 ≤ nu ∧ nu ≤ 1000000) ∧ (0 ≤ de ∧ de ≤ 1000000) ∧ p = .int .i64 nu ∧ q = .int .i64 de ∧ v = .slice A' n c' ∧
          wr.ownsRow w.heap.size 3 1 (.slice A' n c') n (ics out) ∧ Below w.heap.size w wr ∧ R = tmF dnI f nu de out) (fun _ _ v _ => 12 - lenS v)
      case atStart => exact ⟨12, 0, a, b, [], none, 0, by omega, rfl, rfl, ⟨by omega, a2⟩, ⟨by omega, b2⟩, rfl, rfl, rfl, World.ownsRow_nil _ _ _ _, Hb1.out, HR.out⟩
      case round =>
        clear HR Hb1 a1 a2 b1 b2 hlt
        obtain ⟨f, n, nu, de, out, A', c', hn10, hf, hol, ⟨nu1, nu2⟩, ⟨de1, de2⟩, rfl, rfl, rfl, ho, hb, hR⟩ := hrel
        obtain ⟨f', rfl⟩ : ∃ f', f = f' + 1 := ⟨f - 1, by omega⟩
        have hob := ho.lt
        have Hob := Lib.hid hob
        have hsz := hb.size
        clear hob
        by_cases h0 : de = 0
        · subst h0
          have hE := retT_yes (w := w) (w' := wr) (hR.trans (tmF_zero dnI f' nu out)) hol ho hb
          have HE := Lib.hid hE
          clear hE ho hb hR hol
          go_wp2
          go_ret2
          exact HE.out
        · have hbad := tmF_bad dnI f' nu de out h0
          have hmore := tmF_more dnI f' nu de out h0
          rw [← hR] at hbad hmore
          have d1 : 0 < de := by omega
          have e1 : (dnI nu de).1 = nu / de := rfl
          have e2 : (dnI nu de).2 = nu % de := rfl
          rw [e1] at hbad hmore
          rw [e2] at hmore
          obtain ⟨u1, u2, u3, u4⟩ := dn_bd ⟨nu1, nu2⟩ (show 1 ≤ de ∧ de ≤ 1000000 by omega)
          have Hbad := Lib.hid hbad
          have Hmore := Lib.hid hmore
          have Ho := Lib.hid ho
          have Hb := Lib.hid hb
          have Hol := Lib.hid hol
          have Hol1 : Hid ((out ++ [nu / de]).length = n + 1) := Lib.hid (by rw [List.length_append, hol]; rfl)
          clear hbad hmore e1 e2 hR ho hb hol
          have own2 := Ho.out.alloc (.cells #[.int .i64 (nu / de)] 3)
          have hb2 := Hb.out.alloc hsz (.cells #[.int .i64 (nu / de)] 3)
          have Hb2 := Lib.hid hb2
          clear hb2
          go_wp2_with (at_builtin; refine append1In _ rfl _ _ rfl w.heap.size (.slice A' n c') n out Hol.out rfl own2 wr.heap.size (nu / de) rfl ?c1 ?c2 Hb2.out.size ?_; (case c1 => simp [go_sem]); (case c2 => omega); intro A3 c3 w3 own3 hg3)
          have hb3 := below_grown Hb2.out hg3 (Nat.le_refl _) (fun j hj => (Hob.out j hj).1)
          have hs3 := SlI.of_own (l := out ++ [nu / de]) own3
          have Hb3 := Lib.hid hb3
          clear hg3 own2 hb3
          refine (spec_ctGood _ (n + 1) c3 _ (out ++ [nu / de]) _ Hol1.out hs3 (by omega)).mono ?_
          rintro e w4 ⟨rfl, rfl⟩
          cases hg : good (out ++ [nu / de])
          · have hE := retT_no (w := w) (Hbad.out hg) Hb3.out
            have HE := Lib.hid hE
            clear hE hg hs3 own3
            go_wp2
            go_ret2
            exact HE.out
          · have hn9 : n ≤ 9 := by have := (good_iff.1 hg).1; have := Hol1.out; omega
            have HE := Lib.hid (Hmore.out hg)
            clear hg hs3
            have t2 : nu.tmod de = nu % de := Int.tmod_eq_emod_of_nonneg nu1
            have w2 : IntKind.i64.wrap (nu % de) = nu % de := IntWalk.i64_in _ (by omega)
            go_wp2
            go_quiet (fail)
            clear t2 w2
            go_wp2
            go_roundw
            case rel => exact ⟨f', n + 1, de, _, _, A3, c3, by omega, by omega, Hol1.out, ⟨by omega, de2⟩, ⟨u3, by omega⟩, rfl, rfl, rfl, own_drewN own3 _, below_drewN Hb3.out _, HE.out⟩
            case measure => simp [lenS]; omega

set_option maxHeartbeats 800000 in
theorem impl_PlusTerms (a b : Int) (w : World) : Calls Try.prog 47 #[.int .i64 a, .int .i64 b] w (RetI w (tmR (ptR a b)) (ptR a b).isSome) := by
  go_enter Try.func47, Try.ntmps47
  go_wp2_with fail
  refine (impl_isRatio a b _).mono ?_
  rintro e w1 ⟨rfl, hb1⟩
  cases hc : coB a b
  · have hE := retT_no (R := ptR a b) (w := w) (by unfold ptR; rw [hc]; simp) hb1
    have HE := Lib.hid hE
    clear hE hb1
    go_wp2
    go_ret2
    exact HE.out
  · obtain ⟨⟨a1, a2⟩, ⟨b1, b2⟩, _⟩ := coB_iff.1 hc
    by_cases hlt : a < b
    · have hE := retT_no (R := ptR a b) (w := w) (if_neg (fun e => by omega)) hb1
      have HE := Lib.hid hE
      clear hE hb1
      go_wp2
      go_ret2
      exact HE.out
    · have hR : ptR a b = tmF dnI 12 a b [] := if_pos ⟨hc, by omega⟩
      have HR := Lib.hid hR
      have Hb1 := Lib.hid hb1
      clear hR hb1 hc
      go_wp2_with fail
      refine (impl_terms_dn a b _ ⟨by omega, by omega⟩ ⟨by omega, by omega⟩).mono ?_
      rintro e w2 ⟨A2, c2, rfl, o2, b2⟩
      rw [← HR.out] at o2 ⊢
      generalize ptR a b = R at *
      have hE : RetI w (tmR R) R.isSome (.returned (.tuple #[.slice A2 (tmR R).length c2, .bool R.isSome])) w2 := ⟨A2, c2, rfl, o2.mono Hb1.out.size, below_kept Hb1.out (Nat.le_refl _) b2⟩
      have HE := Lib.hid hE
      clear hE o2 b2
      generalize (tmR R).length = z at *
      go_wp2
      go_ret2
      exact HE.out

theorem pos_bd {l : List Int} (h : posB l = true) : (0 ≤ ctv 1 l ∧ ctv 1 l ≤ 819628286980801) ∧ (1 ≤ ctv 1 (l.drop 1) ∧ ctv 1 (l.drop 1) ≤ 819628286980801) := by
  obtain ⟨hg, h0, _⟩ := posB_iff.1 h
  have hsm := good_small hg
  have h10 := (good_iff.1 hg).1
  have b1 := ctv_bd (.inl rfl) l hsm h10
  have b2 := ctv_bd (.inl rfl) (l.drop 1) (hsm.drop 1) (by simp; omega)
  have hp := posB_pos h
  have p1 := (ctv_pos l hp).1
  have p2 := (ctv_pos (l.drop 1) (fun x hx => hp x (List.mem_of_mem_drop hx))).1
  omega

set_option maxHeartbeats 800000 in
theorem spec_MinusOfPlus (A : Option Addr) (c B : Nat) (l : List Int) (w : World) (h : SlI w B A l) (hl : l.length ≤ 1048576) :
    Calls Try.prog 53 #[.slice A l.length c] w (RetI w (tmR (mpR l)) (mpR l).isSome) := by
  go_enter Try.func53, Try.ntmps53
  go_wp2_with fail
  refine (spec_ctPositive A c B l _ h hl).mono ?_
  rintro e w1 ⟨rfl, rfl⟩
  cases hc : posB l
  · have hE := retT_no (R := mpR l) (w := w) (by unfold mpR; rw [hc]; simp) (Below.refl _ _)
    have HE := Lib.hid hE
    clear hE h
    go_wp2
    go_ret2
    exact HE.out
  · obtain ⟨hgd, h0, hall⟩ := posB_iff.1 hc
    have hR : mpR l = tmF upI 12 (ctv 1 l) (ctv 1 (l.drop 1)) [] := by unfold mpR; rw [hc]; simp
    have HR := Lib.hid hR
    have hcall := spec_ctFraction A _ c B l 1 w rfl (.inl rfl) h (good_small hgd) h0 (good_iff.1 hgd).1
    rw [frR_plus l h0 (posB_pos hc)] at hcall
    have Hcall := Lib.hid hcall
    obtain ⟨⟨p1, p2⟩, p3, p4⟩ := pos_bd hc
    clear hR hc hcall hgd hall h
    generalize ctv 1 l = v1 at *
    generalize ctv 1 (l.drop 1) = v2 at *
    go_wp2_with fail
    refine Hcall.out.mono ?_
    rintro e w1 ⟨rfl, hb1⟩
    have Hb1 := Lib.hid hb1
    clear hb1
    go_wp2_with fail
    refine (spec_ctMinus v1 v2 _ ⟨p1, p2⟩ ⟨p3, p4⟩).mono ?_
    rintro e w2 ⟨A2, c2, rfl, o2, b2⟩
    rw [← HR.out] at o2 ⊢
    generalize mpR l = R at *
    have hE : RetI w (tmR R) R.isSome (.returned (.tuple #[.slice A2 (tmR R).length c2, .bool R.isSome])) w2 := ⟨A2, c2, rfl, o2.mono Hb1.out.size, below_kept Hb1.out (Nat.le_refl _) b2⟩
    have HE := Lib.hid hE
    clear hE o2 b2
    generalize (tmR R).length = z at *
    go_wp2
    go_ret2
    exact HE.out

set_option maxHeartbeats 800000 in
theorem impl_MinusOfPlus (A : Option Addr) (c B : Nat) (l : List Int) (w : World) (h : SlI w B A l) (hl : l.length ≤ 1048576) (hlc : l.length ≤ c) :
    Calls Try.prog 52 #[.slice A l.length c] w (RetI w (tmR (mpR l)) (mpR l).isSome) := by
  have hcall := impl_FractionOfPlus A c B l w h hl hlc
  cases hc : posB l
  · have hE := fun w' => retT_no (R := mpR l) (w := w) (w' := w') (by unfold mpR; rw [hc]; simp)
    rw [fpR_no hc] at hcall
    have HE := Lib.hid hE
    have Hcall := Lib.hid hcall
    clear hE h hc hcall
    go_enter Try.func52, Try.ntmps52
    go_wp2_with fail
    refine Hcall.out.mono ?_
    rintro e w1 ⟨rfl, hb1⟩
    have HE2 := Lib.hid (HE.out _ hb1)
    clear hb1
    go_wp2
    go_ret2
    exact HE2.out
  · obtain ⟨hgd, h0, hall⟩ := posB_iff.1 hc
    have hR : mpR l = tmF upI 12 (ctv 1 l) (ctv 1 (l.drop 1)) [] := by unfold mpR; rw [hc]; simp
    have HR := Lib.hid hR
    rw [fpR_yes hc, frR_plus l h0 (posB_pos hc)] at hcall
    have Hcall := Lib.hid hcall
    obtain ⟨⟨p1, p2⟩, p3, p4⟩ := pos_bd hc
    clear hR hc hcall hgd hall h
    generalize ctv 1 l = v1 at *
    generalize ctv 1 (l.drop 1) = v2 at *
    go_enter Try.func52, Try.ntmps52
    go_wp2_with fail
    refine Hcall.out.mono ?_
    rintro e w1 ⟨rfl, hb1⟩
    have Hb1 := Lib.hid hb1
    clear hb1
    go_wp2_with fail
    refine (impl_terms_up v1 v2 _ ⟨p1, p2⟩ ⟨by omega, p4⟩).mono ?_
    rintro e w2 ⟨A2, c2, rfl, o2, b2⟩
    rw [← HR.out] at o2 ⊢
    generalize mpR l = R at *
    have hE : RetI w (tmR R) R.isSome (.returned (.tuple #[.slice A2 (tmR R).length c2, .bool R.isSome])) w2 := ⟨A2, c2, rfl, o2.mono Hb1.out.size, below_kept Hb1.out (Nat.le_refl _) b2⟩
    have HE := Lib.hid hE
    clear hE o2 b2
    generalize (tmR R).length = z at *
    go_wp2
    go_ret2
    exact HE.out

end Go.Proofs.Ytfkkbjbgjmaciaa

/- PutT: The model's ctTake. -/
namespace Go.Proofs.Ytfkkbjbgjmaciaa
open Go.RowKit
set_option maxRecDepth 100000 in
set_option maxHeartbeats 6400000 in
theorem spec_ctTake (A : Option Addr) (n c B : Nat) (l : List Int) (k : Nat) (w : World) (hn : l.length = n) (h : SlI w B A l) (hB : B ≤ w.heap.size) (hsm : Small l) (hl : n ≤ 10) (hlc : n ≤ c) (hk1 : 1 ≤ k) (hk2 : k + 1 < n) :
    Calls Try.prog 116 #[.slice A n c, .int .i64 k] w (RetI w (takL l k) (good (takL l k))) := by
  obtain ⟨b', off, rfl, hbB, hc⟩ := h (by omega)
  obtain ⟨N, hN⟩ : ∃ N, N = n - 1 := ⟨_, rfl⟩
  have H := Lib.hid h
  have HBs := Lib.hid (takB_small hsm k)
  have HBl : Hid ((takB l k).length = N) := Lib.hid (by rw [takB_length l k (by omega), hn, hN])
  have HT : Hid ((l.take k).length = k) := Lib.hid (by simp; omega)
  have HD : Hid ((l.drop (k + 1)).length = n - (k + 1)) := Lib.hid (by simp; omega)
  have HN : Hid (N = k + (n - (k + 1))) := Lib.hid (by omega)
  have k0 : (0 : Int) ≤ (k : Int) := by omega
  have k1 : (k : Int) ≤ (c : Int) := by omega
  have k2 : (0 : Int) ≤ (k : Int) + 1 := by omega
  have k3 : (k : Int) + 1 ≤ (n : Int) := by omega
  have k4 : (n : Int) ≤ (c : Int) := by omega
  have k5 : ¬ c = k + 1 := by omega
  have k6 : k ≤ 1000000 := by omega
  have k7 : n - (k + 1) ≤ 1000000 := by omega
  have Hk1 := Lib.hid hk1
  have Hk2 := Lib.hid hk2
  have hNa : N + 1 ≤ n := by omega
  have hNb : n ≤ N + 1 := by omega
  have Hl := Lib.hid hl
  clear hc h hsm hn hN
  go_enter Try.func116, Try.ntmps116
  go_wp2
  have hpw : IntKind.i64.wrap ((k : Int) + 1) = (k : Int) + 1 := IntWalk.i64_in _ (by omega)
  have hpn : ((k : Int) + 1).toNat = k + 1 := by omega
  go_region_held3 (fun w' => Below w.heap.size w w')
    (first
      | assumption
      | exact (Below.refl _ _).drew
      | exact b6
      | exact below_kept (Below.refl _ _).drew (Nat.le_refl _) b6
      | (refine below_grown ?_ g7 (Nat.le_refl _) (fun j hj => (o6.lt j hj).1); assumption))
    (first
      | (refine step_ownP w.drew rfl _ rfl (some ⟨b', off, none⟩) k _ B (l.take k) rfl HT.out (H.out.take k).drw hB k6 ?_; intro A6 c6 w6 o6 b6)
      | (refine step_appendNI _ rfl _ _ rfl w.heap.size (.slice A6 k c6) k (l.take k) HT.out rfl o6 _ (n - (k + 1)) _ (l.drop (k + 1)) B N ?_ rfl HD.out ?_ ?_ ?_ b6.size ?_
         · exact HN.out
         · exact ((H.out.cutAt (k + 1)).drw.below (b6.mono hB))
         · exact k6
         · exact k7
         intro A7 c7 w7 o7 g7))
  rename_i hS7
  have hk1 := Hk1.out
  have hk2 := Hk2.out
  have hl := Hl.out
  rw [show l.take k ++ l.drop (k + 1) = takB l k from rfl] at o7
  have Hb7 := Lib.hid hS7
  clear hS7 g7 o6 b6 hpw hpn H
  obtain ⟨gl, cap0, hv, hgl, _⟩ := o7.form (by omega)
  cases hv
  have x1 := HBs.out.get (k - 1) (by rw [HBl.out]; omega)
  have x2 := HBs.out.get (k) (by rw [HBl.out]; omega)
  have hfd : takL l k = decr (decr (takB l k) (k - 1)) (k) := rfl
  have hg2 : (decr (takB l k) (k - 1)).getD (k) 0 = (takB l k).getD (k) 0 := by unfold decr; exact set_get _ _ _ _ (by omega)
  have HFl : Hid ((takL l k).length = N) := Lib.hid (by rw [hfd, decr_length, decr_length, HBl.out])
  have Hfd := Lib.hid hfd
  generalize takB l k = L0 at *
  have ca : w7.cell? ⟨gl, k - 1, none⟩ = some (.int .i64 (L0.getD (k - 1) 0)) := by rw [o7.cellAt _ (by omega), ics_get _ _ (by rw [HBl.out]; omega)]
  have fa := o7.frozenAt (k - 1)
  obtain ⟨o8, g8⟩ := o7.stored (k - 1) (.int .i64 (L0.getD (k - 1) 0 - 1))
  rw [ics_set, show L0.set (k - 1) (L0.getD (k - 1) 0 - 1) = decr L0 (k - 1) from rfl] at o8
  have cb : (w7.setCell ⟨gl, k - 1, none⟩ (.int .i64 (L0.getD (k - 1) 0 - 1))).cell? ⟨gl, k, none⟩ = some (.int .i64 (L0.getD (k) 0)) := by rw [o8.cellAt _ (by omega), ics_get _ _ (by rw [decr_length, HBl.out]; omega), hg2]
  have fb := o8.frozenAt (k)
  obtain ⟨o9, g9⟩ := o8.stored (k) (.int .i64 (L0.getD (k) 0 - 1))
  rw [ics_set, show (decr L0 (k - 1)).set (k) (L0.getD (k) 0 - 1) = decr (decr L0 (k - 1)) (k) by rw [← hg2]; rfl, ← Hfd.out] at o9
  have b8 := below_grown Hb7.out g8 (Nat.le_refl _) (fun k hk => by injection hk with hk; omega)
  have b9 := below_grown b8 g9 (Nat.le_refl _) (fun k hk => by injection hk with hk; omega)
  obtain ⟨W9, hW9⟩ : ∃ W9, W9 = (w7.setCell ⟨gl, k - 1, none⟩ (.int .i64 (L0.getD (k - 1) 0 - 1))).setCell ⟨gl, k, none⟩ (.int .i64 (L0.getD (k) 0 - 1)) := ⟨_, rfl⟩
  rw [← hW9] at o9 b9
  have HW9 := Lib.hid hW9
  have O9 := Lib.hid o9
  have B9 := Lib.hid b9
  obtain ⟨_, _⟩ := x1
  obtain ⟨_, _⟩ := x2
  clear o7 o8 o9 g8 g9 b8 b9 hW9 hg2 hfd hgl Hb7
  generalize L0.getD (k - 1) 0 = xa at *
  generalize L0.getD (k) 0 = xb at *
  have i0 : (0 : Int) ≤ (k : Int) - 1 := by omega
  have i1 : (k : Int) - 1 < (N : Int) := by omega
  have j0 : (0 : Int) ≤ (k : Int) := by omega
  have j1 : (k : Int) < (N : Int) := by omega
  have e0 : (1 : Int) ≤ (k : Int) := by omega
  have e1 : (k : Int) ≤ (N : Int) := by omega
  have e2 : (k : Int) < (N : Int) + 1 := by omega
  have e3 : k ≤ N := by omega
  have e4 : 1 ≤ k := by omega
  have it : ((k : Int) - 1).toNat = k - 1 := by omega
  have jt : ((k : Int)).toNat = k := by omega
  go_wp2_with fail
  rw [← HW9.out]
  clear HW9 ca cb fa fb it jt
  refine (spec_ctGood _ N _ _ (takL l k) _ HFl.out (SlI.of_own O9.out) (by omega)).mono ?_
  rintro e w10 ⟨rfl, rfl⟩
  have hE : RetI w (takL l k) (good (takL l k)) (.returned (.tuple #[.slice (some ⟨gl, 0, none⟩) N c7, .bool (good (takL l k))])) W9 := ⟨_, _, by rw [HFl.out], by rw [HFl.out]; exact O9.out, B9.out⟩
  have HE := Lib.hid hE
  clear hE O9
  generalize good (takL l k) = gd at *
  go_wp2
  go_ret2
  exact HE.out
end Go.Proofs.Ytfkkbjbgjmaciaa

/- PutU: The program's TakeOne. -/
namespace Go.Proofs.Ytfkkbjbgjmaciaa
open Go.RowKit
set_option maxRecDepth 100000 in
set_option maxHeartbeats 6400000 in
theorem impl_TakeOne (A : Option Addr) (n c B : Nat) (l : List Int) (i : Int) (w : World) (hn : l.length = n) (h : SlI w B A l) (hB : B ≤ w.heap.size) (hl : n ≤ 1048576) (hlc : n ≤ c) :
    Calls Try.prog 38 #[.slice A n c, .int .i64 i] w (RetI w (optL (toR l i)) (toR l i).isSome) := by
  have Hn := Lib.hid hn
  go_enter Try.func38, Try.ntmps38
  go_wp2_with fail
  refine (impl_IsTermList A _ c B l _ Hn.out h hl).mono ?_
  rintro e w1 ⟨rfl, rfl⟩
  cases hg : good l
  · have HE := Lib.hid (retO_no (R := toR l i) (w := w) (toR_no1 hg) (Below.refl _ _))
    clear h hn hg
    go_wp2
    go_ret2
    exact HE.out
  · have h10 := (good_iff.1 hg).1
    by_cases h1 : i < 1
    · have HE := Lib.hid (retO_no (R := toR l i) (w := w) (toR_no2 (by omega)) (Below.refl _ _))
      clear h hn hg
      go_wp2
      go_ret2
      exact HE.out
    · by_cases h2 : (n : Int) - 1 ≤ i
      · have HE := Lib.hid (retO_no (R := toR l i) (w := w) (toR_no2 (by omega)) (Below.refl _ _))
        clear h hn hg
        go_wp2
        go_ret2
        exact HE.out
      · obtain ⟨k, rfl⟩ := Int.eq_ofNat_of_zero_le (show 0 ≤ i by omega)
        obtain ⟨b', off, rfl, hbB, hc⟩ := h (by omega)
        have g0 := hc k (by omega)
        have i0 : (0 : Int) ≤ (k : Int) := by omega
        have i1 : (k : Int) < (n : Int) := by omega
        have n10 : n ≤ 10 := by omega
        have hk1 : 1 ≤ k := by omega
        have hk2 : k + 1 < n := by omega
        by_cases hx : l.getD k 0 = 1
        · have Hat := Lib.hid (toR_at hg hk1 (by omega) hx)
          have hsm := good_small hg
          obtain ⟨N, hN⟩ : ∃ N, N = n - 1 := ⟨_, rfl⟩
          have H := Lib.hid h
          have HBs := Lib.hid (takB_small hsm k)
          have HBl : Hid ((takB l k).length = N) := Lib.hid (by rw [takB_length l k (by omega), hn, hN])
          have HT : Hid ((l.take k).length = k) := Lib.hid (by simp; omega)
          have HD : Hid ((l.drop (k + 1)).length = n - (k + 1)) := Lib.hid (by simp; omega)
          have HN : Hid (N = k + (n - (k + 1))) := Lib.hid (by omega)
          rw [hx] at g0
          have k1 : (k : Int) ≤ (c : Int) := by omega
          have k2 : (0 : Int) ≤ (k : Int) + 1 := by omega
          have k3 : (k : Int) + 1 ≤ (n : Int) := by omega
          have k4 : (n : Int) ≤ (c : Int) := by omega
          have k5 : ¬ c = k + 1 := by omega
          have k6 : 0 < k := by omega
          have k7 : 0 < n - (k + 1) := by omega
          have k8 : N ≤ 1000000 := by omega
          have Hk1 := Lib.hid hk1
          have Hk2 := Lib.hid hk2
          have hNa : N + 1 ≤ n := by omega
          have hNb : n ≤ N + 1 := by omega
          have Hl := Lib.hid n10
          clear hc h hsm hn hN hg hx h10
          go_wp2
          have hpw : IntKind.i64.wrap ((k : Int) + 1) = (k : Int) + 1 := IntWalk.i64_in _ (by omega)
          have hpn : ((k : Int) + 1).toNat = k + 1 := by omega
          clear g0
          go_region_held3 (fun w' => Below w.heap.size w w')
            (first
              | assumption
              | exact (Below.refl _ _).drew
              | exact (below_grown (Below.refl _ _).drew g7 (Nat.le_refl _) (fun j hj => by cases hj)))
            (first
              | (refine step_growI w.drew rfl _ _ rfl (some ⟨b', off, none⟩) k B (l.take k) HT.out k6 rfl (H.out.take k).drw (some ⟨b', off + (k + 1), none⟩) (n - (k + 1)) _ B N (l.drop (k + 1)) HN.out HD.out k7 rfl (H.out.cutAt (k + 1)).drw k8 ?_; intro A7 c7 w7 o7 g7))
          rename_i hS7
          have hk1 := Hk1.out
          have hk2 := Hk2.out
          have hl := Hl.out
          rw [show l.take k ++ l.drop (k + 1) = takB l k from rfl] at o7
          replace o7 := o7.mono (show w.heap.size ≤ w.drew.heap.size from Nat.le_refl _)
          have Hb7 := Lib.hid hS7
          clear hS7 g7 hpw hpn H
          obtain ⟨gl, cap0, hv, hgl, _⟩ := o7.form (by omega)
          cases hv
          have x1 := HBs.out.get (k - 1) (by rw [HBl.out]; omega)
          have x2 := HBs.out.get (k) (by rw [HBl.out]; omega)
          have hfd : takL l k = decr (decr (takB l k) (k - 1)) (k) := rfl
          have hg2 : (decr (takB l k) (k - 1)).getD (k) 0 = (takB l k).getD (k) 0 := by unfold decr; exact set_get _ _ _ _ (by omega)
          have HFl : Hid ((takL l k).length = N) := Lib.hid (by rw [hfd, decr_length, decr_length, HBl.out])
          have Hfd := Lib.hid hfd
          generalize takB l k = L0 at *
          have ca : w7.cell? ⟨gl, k - 1, none⟩ = some (.int .i64 (L0.getD (k - 1) 0)) := by rw [o7.cellAt _ (by omega), ics_get _ _ (by rw [HBl.out]; omega)]
          have fa := o7.frozenAt (k - 1)
          obtain ⟨o8, g8⟩ := o7.stored (k - 1) (.int .i64 (L0.getD (k - 1) 0 - 1))
          rw [ics_set, show L0.set (k - 1) (L0.getD (k - 1) 0 - 1) = decr L0 (k - 1) from rfl] at o8
          have cb : (w7.setCell ⟨gl, k - 1, none⟩ (.int .i64 (L0.getD (k - 1) 0 - 1))).cell? ⟨gl, k, none⟩ = some (.int .i64 (L0.getD (k) 0)) := by rw [o8.cellAt _ (by omega), ics_get _ _ (by rw [decr_length, HBl.out]; omega), hg2]
          have fb := o8.frozenAt (k)
          obtain ⟨o9, g9⟩ := o8.stored (k) (.int .i64 (L0.getD (k) 0 - 1))
          rw [ics_set, show (decr L0 (k - 1)).set (k) (L0.getD (k) 0 - 1) = decr (decr L0 (k - 1)) (k) by rw [← hg2]; rfl, ← Hfd.out] at o9
          have b8 := below_grown Hb7.out g8 (Nat.le_refl _) (fun k hk => by injection hk with hk; omega)
          have b9 := below_grown b8 g9 (Nat.le_refl _) (fun k hk => by injection hk with hk; omega)
          obtain ⟨W9, hW9⟩ : ∃ W9, W9 = (w7.setCell ⟨gl, k - 1, none⟩ (.int .i64 (L0.getD (k - 1) 0 - 1))).setCell ⟨gl, k, none⟩ (.int .i64 (L0.getD (k) 0 - 1)) := ⟨_, rfl⟩
          rw [← hW9] at o9 b9
          have HW9 := Lib.hid hW9
          have O9 := Lib.hid o9
          have B9 := Lib.hid b9
          obtain ⟨_, _⟩ := x1
          obtain ⟨_, _⟩ := x2
          clear o7 o8 o9 g8 g9 b8 b9 hW9 hg2 hfd hgl Hb7
          generalize L0.getD (k - 1) 0 = xa at *
          generalize L0.getD (k) 0 = xb at *
          have i0 : (0 : Int) ≤ (k : Int) - 1 := by omega
          have i1 : (k : Int) - 1 < (N : Int) := by omega
          have j0 : (0 : Int) ≤ (k : Int) := by omega
          have j1 : (k : Int) < (N : Int) := by omega
          have e0 : (1 : Int) ≤ (k : Int) := by omega
          have e1 : (k : Int) ≤ (N : Int) := by omega
          have e2 : (k : Int) < (N : Int) + 1 := by omega
          have e3 : k ≤ N := by omega
          have e4 : 1 ≤ k := by omega
          have it : ((k : Int) - 1).toNat = k - 1 := by omega
          have jt : ((k : Int)).toNat = k := by omega
          go_wp2_with fail
          rw [← HW9.out]
          clear HW9 ca cb fa fb it jt
          refine (impl_IsTermList _ N _ _ (takL l k) _ HFl.out (SlI.of_own O9.out) (by omega)).mono ?_
          rintro e w10 ⟨rfl, rfl⟩
          cases hg : good (takL l k)
          · have hE := retO_no (w := w) (Hat.out.trans (if_neg (by rw [hg]; simp))) B9.out
            have HE := Lib.hid hE
            clear hE hg O9
            go_wp2
            go_ret2
            exact HE.out
          · have hE := retO_yes (w := w) (Hat.out.trans (if_pos hg)) HFl.out O9.out B9.out
            have HE := Lib.hid hE
            clear hE hg O9
            go_wp2
            go_ret2
            exact HE.out
        · have HE := Lib.hid (retO_no (R := toR l k) (w := w) (toR_no3 hx) (Below.refl _ _))
          have hx' : (l.getD k 0 != 1) = true := by simpa using hx
          generalize l.getD k 0 = x at *
          clear h hn hg hc hx
          go_wp2
          go_ret2
          exact HE.out
end Go.Proofs.Ytfkkbjbgjmaciaa

/- PutW: PutOne, TakeOne: the model's and the program's contracts, and the laws' walks. -/
namespace Go.Proofs.Ytfkkbjbgjmaciaa
open Go.RowKit

theorem inBp_iff {n lo hi : Int} : inB n lo hi = true ↔ lo ≤ n ∧ n ≤ hi := by unfold inB; simp

set_option maxRecDepth 100000 in
set_option maxHeartbeats 6400000 in
theorem spec_PutOne (A : Option Addr) (c B : Nat) (l : List Int) (i : Int) (w : World) (h : SlI w B A l) (hB : B ≤ w.heap.size) (hl : l.length ≤ 1048576) (hlc : l.length ≤ c) :
    Calls Try.prog 37 #[.slice A l.length c, .int .i64 i] w (RetI w (optL (poR l i)) (poR l i).isSome) := by
  obtain ⟨n, hn⟩ : ∃ n, l.length = n := ⟨_, rfl⟩
  rw [hn] at hl hlc ⊢
  have Hn := Lib.hid hn
  go_enter Try.func37, Try.ntmps37
  go_wp2_with fail
  refine (spec_ctGood A _ c B l _ Hn.out h hl).mono ?_
  rintro e w1 ⟨rfl, rfl⟩
  cases hg : good l
  · have HE := Lib.hid (retO_no (R := poR l i) (w := w) (poR_no1 hg) (Below.refl _ _))
    clear h hn hg
    go_wp2
    go_ret2
    exact HE.out
  · have h10 := (good_iff.1 hg).1
    have n10 : n ≤ 10 := by omega
    go_wp2_with fail
    refine (spec_l1In' _ _ _ _).mono ?_
    rintro e w1 ⟨rfl, rfl⟩
    cases hi : inB i 1 ((n : Int) - 1)
    · have HE := Lib.hid (retO_no (R := poR l i) (w := w) (poR_no2 (by rw [hn]; intro e; rw [inBp_iff.2 e] at hi; cases hi)) (Below.refl _ _))
      clear h hn hg hi
      go_wp2
      go_ret2
      exact HE.out
    · obtain ⟨h1, h2⟩ := inBp_iff.1 hi
      clear hi
      obtain ⟨k, rfl⟩ := Int.eq_ofNat_of_zero_le (show 0 ≤ i by omega)
      obtain ⟨b', off, rfl, hbB, hc⟩ := h (by omega)
      have hk1 : 1 ≤ k := by omega
      have hk2 : k < n := by omega
      have Hat := Lib.hid (poR_at hg hk1 (by omega))
      have hsm := good_small hg
      obtain ⟨N, hN⟩ : ∃ N, N = n + 1 := ⟨_, rfl⟩
      have H := Lib.hid h
      have HBs := Lib.hid (putB_small hsm k)
      have HBl : Hid ((putB l k).length = N) := Lib.hid (by rw [putB_length l k (by omega), hn, hN])
      have HT : Hid ((l.take k).length = k) := Lib.hid (by simp; omega)
      have HT1 : Hid ((l.take k ++ [1]).length = k + 1) := Lib.hid (by simp; omega)
      have HD : Hid ((l.drop k).length = n - k) := Lib.hid (by simp; omega)
      have HN : Hid (N = k + 1 + (n - k)) := Lib.hid (by omega)
      have k0 : (0 : Int) ≤ (k : Int) := by omega
      have k1 : (k : Int) ≤ (c : Int) := by omega
      have k3 : (k : Int) ≤ (n : Int) := by omega
      have k4 : (n : Int) ≤ (c : Int) := by omega
      have k5 : ¬ c = k := by omega
      have k6 : 0 < k := by omega
      have k7 : k ≤ 1000000 := by omega
      have k8 : n - k ≤ 1000000 := by omega
      have k9 : k + 1 ≤ 1000000 := by omega
      have Hk1 := Lib.hid hk1
      have Hk2 := Lib.hid hk2
      have hNa : n + 1 ≤ N := by omega
      have hNb : N ≤ n + 1 := by omega
      have Hl := Lib.hid n10
      clear hc h hsm hn hN hg h10
      go_wp2_with fail
      refine (spec_l1Own_at (some ⟨b', off, none⟩) k c B (l.take k) _ HT.out (H.out.take k) hB (by omega)).mono ?_
      rintro e w2 ⟨A2, c2, rfl, o2, b2⟩
      have own2 := o2.alloc (.cells #[.int .i64 1] 3)
      have hb2 := b2.alloc b2.size (.cells #[.int .i64 1] 3)
      have Hob := Lib.hid o2.lt
      have Hb2 := Lib.hid hb2
      clear hb2 o2 b2
      go_upto_region 5 with (first
        | (at_builtin; refine append1In _ rfl _ _ rfl w.heap.size (.slice A2 k c2) k (l.take k) HT.out rfl own2 w2.heap.size 1 rfl ?c1 ?c2 Hb2.out.size ?_; (case c1 => simp [go_sem]); (case c2 => omega); intro A3 c3 w3 own3 hg3
           have hob3 := Lib.hid own3.lt
           have hb3 := below_grown Hb2.out hg3 (Nat.le_refl _) (fun j hj => (Hob.out j hj).1)
           have Hb3 := Lib.hid hb3
           have Ow3 := Lib.hid own3
           clear hg3 own2 hb3 own3)
        | (at_builtin; refine wpList_appendNI _ rfl _ _ rfl w.heap.size (.slice A3 (k + 1) c3) (k + 1) (l.take k ++ [1]) HT1.out rfl Ow3.out (some ⟨b', off + k, none⟩) (n - k) _ (l.drop k) B N HN.out rfl HD.out ((H.out.cutAt k).below (Hb3.out.mono hB)) k9 k8 Hb3.out.size ?_; intro A7 c7 w7 o7 g7
           have hb7 := below_grown Hb3.out g7 (Nat.le_refl _) (fun j hj => (hob3.out j hj).1)
           have Hb7 := Lib.hid hb7
           rw [show l.take k ++ [1] ++ l.drop k = putB l k from rfl] at o7
           have O7 := Lib.hid o7
           clear hb7 g7 o7 Ow3))
      have o7 := O7.out
      have hk1 := Hk1.out
      have hk2 := Hk2.out
      have hl := Hl.out
      clear O7 H
      obtain ⟨gl, cap0, hv, hgl, _⟩ := o7.form (by omega)
      cases hv
      have x1 := HBs.out.get (k - 1) (by rw [HBl.out]; omega)
      have x2 := HBs.out.get (k + 1) (by rw [HBl.out]; omega)
      have hfd : putL l k = incr (incr (putB l k) (k - 1)) (k + 1) := rfl
      have hg2 : (incr (putB l k) (k - 1)).getD (k + 1) 0 = (putB l k).getD (k + 1) 0 := by unfold incr; exact set_get _ _ _ _ (by omega)
      have HFl : Hid ((putL l k).length = N) := Lib.hid (by rw [hfd, incr_length, incr_length, HBl.out])
      have Hfd := Lib.hid hfd
      generalize putB l k = L0 at *
      have ca : w7.cell? ⟨gl, k - 1, none⟩ = some (.int .i64 (L0.getD (k - 1) 0)) := by rw [o7.cellAt _ (by omega), ics_get _ _ (by rw [HBl.out]; omega)]
      have fa := o7.frozenAt (k - 1)
      obtain ⟨o8, g8⟩ := o7.stored (k - 1) (.int .i64 (L0.getD (k - 1) 0 + 1))
      rw [ics_set, show L0.set (k - 1) (L0.getD (k - 1) 0 + 1) = incr L0 (k - 1) from rfl] at o8
      have cb : (w7.setCell ⟨gl, k - 1, none⟩ (.int .i64 (L0.getD (k - 1) 0 + 1))).cell? ⟨gl, k + 1, none⟩ = some (.int .i64 (L0.getD (k + 1) 0)) := by rw [o8.cellAt _ (by omega), ics_get _ _ (by rw [incr_length, HBl.out]; omega), hg2]
      have fb := o8.frozenAt (k + 1)
      obtain ⟨o9, g9⟩ := o8.stored (k + 1) (.int .i64 (L0.getD (k + 1) 0 + 1))
      rw [ics_set, show (incr L0 (k - 1)).set (k + 1) (L0.getD (k + 1) 0 + 1) = incr (incr L0 (k - 1)) (k + 1) by rw [← hg2]; rfl, ← Hfd.out] at o9
      have b8 := below_grown Hb7.out g8 (Nat.le_refl _) (fun k hk => by injection hk with hk; omega)
      have b9 := below_grown b8 g9 (Nat.le_refl _) (fun k hk => by injection hk with hk; omega)
      obtain ⟨W9, hW9⟩ : ∃ W9, W9 = (w7.setCell ⟨gl, k - 1, none⟩ (.int .i64 (L0.getD (k - 1) 0 + 1))).setCell ⟨gl, k + 1, none⟩ (.int .i64 (L0.getD (k + 1) 0 + 1)) := ⟨_, rfl⟩
      rw [← hW9] at o9 b9
      have HW9 := Lib.hid hW9
      have O9 := Lib.hid o9
      have B9 := Lib.hid b9
      obtain ⟨_, _⟩ := x1
      obtain ⟨_, _⟩ := x2
      clear o7 o8 o9 g8 g9 b8 b9 hW9 hg2 hfd hgl Hb7
      generalize L0.getD (k - 1) 0 = xa at *
      generalize L0.getD (k + 1) 0 = xb at *
      have i0 : (0 : Int) ≤ (k : Int) - 1 := by omega
      have i1 : (k : Int) - 1 < (N : Int) := by omega
      have j0 : (0 : Int) ≤ (k : Int) + 1 := by omega
      have j1 : (k : Int) + 1 < (N : Int) := by omega
      have e0 : (1 : Int) ≤ (k : Int) := by omega
      have e1 : (k : Int) ≤ (N : Int) := by omega
      have e2 : (k : Int) < (N : Int) + 1 := by omega
      have e3 : k ≤ N := by omega
      have e4 : 1 ≤ k := by omega
      have it : ((k : Int) - 1).toNat = k - 1 := by omega
      have jt : ((k : Int) + 1).toNat = k + 1 := by omega
      go_wp2_with fail
      rw [← HW9.out]
      clear HW9 ca cb fa fb it jt
      refine (spec_ctGood _ N _ _ (putL l k) _ HFl.out (SlI.of_own O9.out) (by omega)).mono ?_
      rintro e w10 ⟨rfl, rfl⟩
      cases hg : good (putL l k)
      · have hE := retO_no (w := w) (Hat.out.trans (if_neg (by rw [hg]; simp))) B9.out
        have HE := Lib.hid hE
        clear hE hg O9
        go_wp2
        go_ret2
        exact HE.out
      · have hE := retO_yes (w := w) (Hat.out.trans (if_pos hg)) HFl.out O9.out B9.out
        have HE := Lib.hid hE
        clear hE hg O9
        go_wp2
        go_ret2
        exact HE.out

set_option maxRecDepth 100000 in
set_option maxHeartbeats 6400000 in
theorem impl_PutOne (A : Option Addr) (c B : Nat) (l : List Int) (i : Int) (w : World) (h : SlI w B A l) (hB : B ≤ w.heap.size) (hl : l.length ≤ 1048576) (hlc : l.length ≤ c) :
    Calls Try.prog 36 #[.slice A l.length c, .int .i64 i] w (RetI w (optL (poR l i)) (poR l i).isSome) := by
  obtain ⟨n, hn⟩ : ∃ n, l.length = n := ⟨_, rfl⟩
  rw [hn] at hl hlc ⊢
  have Hn := Lib.hid hn
  go_enter Try.func36, Try.ntmps36
  go_wp2_with fail
  refine (impl_IsTermList A _ c B l _ Hn.out h hl).mono ?_
  rintro e w1 ⟨rfl, rfl⟩
  cases hg : good l
  · have HE := Lib.hid (retO_no (R := poR l i) (w := w) (poR_no1 hg) (Below.refl _ _))
    clear h hn hg
    go_wp2
    go_ret2
    exact HE.out
  · have h10 := (good_iff.1 hg).1
    have n10 : n ≤ 10 := by omega
    by_cases h1 : i < 1
    · have HE := Lib.hid (retO_no (R := poR l i) (w := w) (poR_no2 (by omega)) (Below.refl _ _))
      clear h hn hg
      go_wp2
      go_ret2
      exact HE.out
    · by_cases h2 : (n : Int) ≤ i
      · have HE := Lib.hid (retO_no (R := poR l i) (w := w) (poR_no2 (by omega)) (Below.refl _ _))
        clear h hn hg
        go_wp2
        go_ret2
        exact HE.out
      · skip
        obtain ⟨k, rfl⟩ := Int.eq_ofNat_of_zero_le (show 0 ≤ i by omega)
        obtain ⟨b', off, rfl, hbB, hc⟩ := h (by omega)
        have hk1 : 1 ≤ k := by omega
        have hk2 : k < n := by omega
        have Hat := Lib.hid (poR_at hg hk1 (by omega))
        have hsm := good_small hg
        obtain ⟨N, hN⟩ : ∃ N, N = n + 1 := ⟨_, rfl⟩
        have H := Lib.hid h
        have HBs := Lib.hid (putB_small hsm k)
        have HBl : Hid ((putB l k).length = N) := Lib.hid (by rw [putB_length l k (by omega), hn, hN])
        have HT : Hid ((l.take k).length = k) := Lib.hid (by simp; omega)
        have HT1 : Hid ((l.take k ++ [1]).length = k + 1) := Lib.hid (by simp; omega)
        have HD : Hid ((l.drop k).length = n - k) := Lib.hid (by simp; omega)
        have HN : Hid (N = k + 1 + (n - k)) := Lib.hid (by omega)
        have k0 : (0 : Int) ≤ (k : Int) := by omega
        have k1 : (k : Int) ≤ (c : Int) := by omega
        have k3 : (k : Int) ≤ (n : Int) := by omega
        have k4 : (n : Int) ≤ (c : Int) := by omega
        have k5 : ¬ c = k := by omega
        have k6 : 0 < k := by omega
        have k7 : k ≤ 1000000 := by omega
        have k8 : n - k ≤ 1000000 := by omega
        have k9 : k + 1 ≤ 1000000 := by omega
        have Hk1 := Lib.hid hk1
        have Hk2 := Lib.hid hk2
        have hNa : n + 1 ≤ N := by omega
        have hNb : N ≤ n + 1 := by omega
        have Hl := Lib.hid n10
        clear hc h hsm hn hN hg h10
        have hb2 : Below w.heap.size w (w.alloc (.cells #[.int .i64 1] 3)) := (Below.refl _ _).alloc (Nat.le_refl _) _
        have hs2 := (H.out.take k).below (hb2.mono hB)
        have hc2 : (w.alloc (.cells #[.int .i64 1] 3)).cell? ⟨w.heap.size, 0, none⟩ = some (.int .i64 1) := by simp [go_sem]
        have Hs2 := Lib.hid hs2
        have Hc2 : Hid (SlI (w.alloc (.cells #[.int .i64 1] 3)) (w.heap.size + 1) (some ⟨w.heap.size, 0, none⟩) [1]) := Lib.hid (SlI.cell1 hc2 (by omega))
        have Hb2 := Lib.hid hb2
        clear hb2 hs2 hc2
        go_upto_region 5 with (first
          | (at_builtin; refine wpList_growI _ rfl _ _ rfl (some ⟨b', off, none⟩) k B (l.take k) HT.out k6 rfl Hs2.out (some ⟨w.heap.size, 0, none⟩) 1 1 (w.heap.size + 1) (k + 1) [1] rfl rfl (by decide) rfl Hc2.out k9 ?_; intro A3 c3 w3 own3 hg3
             have own4 := own3.mono Hb2.out.size
             have hob3 := Lib.hid own4.lt
             have hb3 := below_grown Hb2.out hg3 (Nat.le_refl _) (fun j hj => by cases hj)
             have Hb3 := Lib.hid hb3
             have Ow3 := Lib.hid own4
             clear hg3 hb3 own3 own4)
          | (at_builtin; refine wpList_appendNI _ rfl _ _ rfl w.heap.size (.slice A3 (k + 1) c3) (k + 1) (l.take k ++ [1]) HT1.out rfl Ow3.out (some ⟨b', off + k, none⟩) (n - k) _ (l.drop k) B N HN.out rfl HD.out ((H.out.cutAt k).below (Hb3.out.mono hB)) k9 k8 Hb3.out.size ?_; intro A7 c7 w7 o7 g7
             have hb7 := below_grown Hb3.out g7 (Nat.le_refl _) (fun j hj => (hob3.out j hj).1)
             have Hb7 := Lib.hid hb7
             rw [show l.take k ++ [1] ++ l.drop k = putB l k from rfl] at o7
             have O7 := Lib.hid o7
             clear hb7 g7 o7 Ow3))
        have o7 := O7.out
        have hk1 := Hk1.out
        have hk2 := Hk2.out
        have hl := Hl.out
        clear O7 H
        obtain ⟨gl, cap0, hv, hgl, _⟩ := o7.form (by omega)
        cases hv
        have x1 := HBs.out.get (k - 1) (by rw [HBl.out]; omega)
        have x2 := HBs.out.get (k + 1) (by rw [HBl.out]; omega)
        have hfd : putL l k = incr (incr (putB l k) (k - 1)) (k + 1) := rfl
        have hg2 : (incr (putB l k) (k - 1)).getD (k + 1) 0 = (putB l k).getD (k + 1) 0 := by unfold incr; exact set_get _ _ _ _ (by omega)
        have HFl : Hid ((putL l k).length = N) := Lib.hid (by rw [hfd, incr_length, incr_length, HBl.out])
        have Hfd := Lib.hid hfd
        generalize putB l k = L0 at *
        have ca : w7.cell? ⟨gl, k - 1, none⟩ = some (.int .i64 (L0.getD (k - 1) 0)) := by rw [o7.cellAt _ (by omega), ics_get _ _ (by rw [HBl.out]; omega)]
        have fa := o7.frozenAt (k - 1)
        obtain ⟨o8, g8⟩ := o7.stored (k - 1) (.int .i64 (L0.getD (k - 1) 0 + 1))
        rw [ics_set, show L0.set (k - 1) (L0.getD (k - 1) 0 + 1) = incr L0 (k - 1) from rfl] at o8
        have cb : (w7.setCell ⟨gl, k - 1, none⟩ (.int .i64 (L0.getD (k - 1) 0 + 1))).cell? ⟨gl, k + 1, none⟩ = some (.int .i64 (L0.getD (k + 1) 0)) := by rw [o8.cellAt _ (by omega), ics_get _ _ (by rw [incr_length, HBl.out]; omega), hg2]
        have fb := o8.frozenAt (k + 1)
        obtain ⟨o9, g9⟩ := o8.stored (k + 1) (.int .i64 (L0.getD (k + 1) 0 + 1))
        rw [ics_set, show (incr L0 (k - 1)).set (k + 1) (L0.getD (k + 1) 0 + 1) = incr (incr L0 (k - 1)) (k + 1) by rw [← hg2]; rfl, ← Hfd.out] at o9
        have b8 := below_grown Hb7.out g8 (Nat.le_refl _) (fun k hk => by injection hk with hk; omega)
        have b9 := below_grown b8 g9 (Nat.le_refl _) (fun k hk => by injection hk with hk; omega)
        obtain ⟨W9, hW9⟩ : ∃ W9, W9 = (w7.setCell ⟨gl, k - 1, none⟩ (.int .i64 (L0.getD (k - 1) 0 + 1))).setCell ⟨gl, k + 1, none⟩ (.int .i64 (L0.getD (k + 1) 0 + 1)) := ⟨_, rfl⟩
        rw [← hW9] at o9 b9
        have HW9 := Lib.hid hW9
        have O9 := Lib.hid o9
        have B9 := Lib.hid b9
        obtain ⟨_, _⟩ := x1
        obtain ⟨_, _⟩ := x2
        clear o7 o8 o9 g8 g9 b8 b9 hW9 hg2 hfd hgl Hb7
        generalize L0.getD (k - 1) 0 = xa at *
        generalize L0.getD (k + 1) 0 = xb at *
        have i0 : (0 : Int) ≤ (k : Int) - 1 := by omega
        have i1 : (k : Int) - 1 < (N : Int) := by omega
        have j0 : (0 : Int) ≤ (k : Int) + 1 := by omega
        have j1 : (k : Int) + 1 < (N : Int) := by omega
        have e0 : (1 : Int) ≤ (k : Int) := by omega
        have e1 : (k : Int) ≤ (N : Int) := by omega
        have e2 : (k : Int) < (N : Int) + 1 := by omega
        have e3 : k ≤ N := by omega
        have e4 : 1 ≤ k := by omega
        have it : ((k : Int) - 1).toNat = k - 1 := by omega
        have jt : ((k : Int) + 1).toNat = k + 1 := by omega
        go_wp2_with fail
        rw [← HW9.out]
        clear HW9 ca cb fa fb it jt
        refine (impl_IsTermList _ N _ _ (putL l k) _ HFl.out (SlI.of_own O9.out) (by omega)).mono ?_
        rintro e w10 ⟨rfl, rfl⟩
        cases hg : good (putL l k)
        · have hE := retO_no (w := w) (Hat.out.trans (if_neg (by rw [hg]; simp))) B9.out
          have HE := Lib.hid hE
          clear hE hg O9
          go_wp2
          go_ret2
          exact HE.out
        · have hE := retO_yes (w := w) (Hat.out.trans (if_pos hg)) HFl.out O9.out B9.out
          have HE := Lib.hid hE
          clear hE hg O9
          go_wp2
          go_ret2
          exact HE.out

set_option maxRecDepth 100000 in
set_option maxHeartbeats 3200000 in
theorem spec_TakeOne (A : Option Addr) (c B : Nat) (l : List Int) (i : Int) (w : World) (h : SlI w B A l) (hB : B ≤ w.heap.size) (hl : l.length ≤ 1048576) (hlc : l.length ≤ c) :
    Calls Try.prog 40 #[.slice A l.length c, .int .i64 i] w (RetI w (optL (toR l i)) (toR l i).isSome) := by
  obtain ⟨n, hn⟩ : ∃ n, l.length = n := ⟨_, rfl⟩
  rw [hn] at hl hlc ⊢
  have Hn := Lib.hid hn
  go_enter Try.func40, Try.ntmps40
  go_wp2_with fail
  refine (spec_ctGood A _ c B l _ Hn.out h hl).mono ?_
  rintro e w1 ⟨rfl, rfl⟩
  cases hg : good l
  · have HE := Lib.hid (retO_no (R := toR l i) (w := w) (toR_no1 hg) (Below.refl _ _))
    clear h hn hg
    go_wp2
    go_ret2
    exact HE.out
  · have h10 := (good_iff.1 hg).1
    have n10 : n ≤ 10 := by omega
    go_wp2_with fail
    refine (spec_l1In' _ _ _ _).mono ?_
    rintro e w1 ⟨rfl, rfl⟩
    cases hi : inB i 1 ((n : Int) - 2)
    · have HE := Lib.hid (retO_no (R := toR l i) (w := w) (toR_no2 (by rw [hn]; intro e; rw [inBp_iff.2 e] at hi; cases hi)) (Below.refl _ _))
      clear h hn hg hi
      go_wp2
      go_ret2
      exact HE.out
    · obtain ⟨h1, h2⟩ := inBp_iff.1 hi
      clear hi
      obtain ⟨k, rfl⟩ := Int.eq_ofNat_of_zero_le (show 0 ≤ i by omega)
      obtain ⟨b', off, rfl, hbB, hc⟩ := h (by omega)
      have g0 := hc k (by omega)
      have hk1 : 1 ≤ k := by omega
      have hk2 : k + 1 < n := by omega
      have i0 : (0 : Int) ≤ (k : Int) := by omega
      have i1 : (k : Int) < (n : Int) := by omega
      by_cases hx : l.getD k 0 = 1
      · have Hat := Lib.hid (toR_at hg hk1 (by omega) hx)
        have hsm := good_small hg
        have Hcall := Lib.hid (spec_ctTake (some ⟨b', off, none⟩) n c B l k w hn h hB hsm n10 hlc hk1 hk2)
        rw [hx] at g0
        clear hc h hn hg hx hsm
        go_wp2_with fail
        refine Hcall.out.mono ?_
        rintro e w2 ⟨A2, c2, rfl, o2, b2⟩
        have hE1 : good (takL l k) = true → RetI w (optL (toR l k)) (toR l k).isSome (.returned (.tuple #[.slice A2 (takL l k).length c2, .bool true])) w2 := fun e => retO_yes (Hat.out.trans (if_pos e)) rfl o2 b2
        have hE2 : good (takL l k) = false → RetI w (optL (toR l k)) (toR l k).isSome (.returned (.tuple #[.slice none 0 0, .bool false])) w2 := fun e => retO_no (Hat.out.trans (if_neg (by rw [e]; simp))) b2
        have HE1 := Lib.hid hE1
        have HE2 := Lib.hid hE2
        clear hE1 hE2 o2 b2 g0
        generalize (takL l k).length = z at *
        cases hgd : good (takL l k)
        · have HF := Lib.hid (HE2.out hgd)
          clear hgd
          go_wp2
          go_ret2
          exact HF.out
        · have HF := Lib.hid (HE1.out hgd)
          clear hgd
          go_wp2
          go_ret2
          exact HF.out
      · have HE := Lib.hid (retO_no (R := toR l k) (w := w) (toR_no3 hx) (Below.refl _ _))
        have hx' : (l.getD k 0 != 1) = true := by simpa using hx
        generalize l.getD k 0 = x at *
        clear h hn hg hc hx
        go_wp2
        go_ret2
        exact HE.out



end Go.Proofs.Ytfkkbjbgjmaciaa

/- RedM: Ones taken out again and again: plain mathematics. -/
namespace Go.Proofs.Ytfkkbjbgjmaciaa

/-- the first 1 from k on, d places looked at -/
def f1 (l : List Int) : Nat → Nat → Option Nat
  | _, 0 => none
  | k, d + 1 => if l.getD k 0 = 1 then some k else f1 l (k + 1) d
/-- the first 1 that has a term on both sides -/
def first1 (l : List Int) : Option Nat := f1 l 1 (l.length - 2)
theorem f1_bd (l : List Int) : ∀ (d k r : Nat), f1 l k d = some r → k ≤ r ∧ r < k + d ∧ l.getD r 0 = 1 := by
  intro d
  induction d with
  | zero => intro k r h; simp [f1] at h
  | succ d ih =>
    intro k r h
    unfold f1 at h
    split at h
    · injection h with h; subst h; exact ⟨Nat.le_refl _, by omega, ‹_›⟩
    · have := ih (k + 1) r h; exact ⟨by omega, by omega, this.2.2⟩
theorem first1_bd {l : List Int} {r : Nat} (h : first1 l = some r) : 1 ≤ r ∧ r + 1 < l.length ∧ l.getD r 0 = 1 := by
  have := f1_bd l _ _ _ h
  exact ⟨this.1, by omega, this.2.2⟩
theorem f1_hit {l : List Int} {k n : Nat} (hk : k + 1 < n) (hx : l.getD k 0 = 1) : f1 l k (n - 1 - k) = some k := by
  obtain ⟨d, hd⟩ : ∃ d, n - 1 - k = d + 1 := ⟨n - 2 - k, by omega⟩
  rw [hd]
  unfold f1
  rw [if_pos hx]
theorem f1_miss {l : List Int} {k n : Nat} (hk : k + 1 < n) (hx : l.getD k 0 ≠ 1) : f1 l k (n - 1 - k) = f1 l (k + 1) (n - 1 - (k + 1)) := by
  obtain ⟨d, hd⟩ : ∃ d, n - 1 - k = d + 1 := ⟨n - 2 - k, by omega⟩
  rw [hd, show n - 1 - (k + 1) = d by omega]
  conv => lhs; unfold f1
  rw [if_neg hx]
theorem f1_end {l : List Int} {k n : Nat} (hk : n ≤ k + 1) : f1 l k (n - 1 - k) = none := by
  rw [show n - 1 - k = 0 by omega]
  rfl
theorem f1_start {l : List Int} {n : Nat} (hn : l.length = n) : f1 l 1 (n - 1 - 1) = first1 l := by
  subst hn
  rfl
/-- one after the other -/
def rdG : Nat → List Int → Option (List Int)
  | 0, _ => none
  | f + 1, l => match first1 l with
    | none => some l
    | some k => if good (takL l k) = true then rdG f (takL l k) else none
theorem rdG_none {f : Nat} {l : List Int} (h : first1 l = none) : rdG (f + 1) l = some l := by
  unfold rdG
  rw [h]
theorem rdG_some {f k : Nat} {l : List Int} (h : first1 l = some k) : rdG (f + 1) l = if good (takL l k) = true then rdG f (takL l k) else none := by
  conv => lhs; unfold rdG
  rw [h]
theorem rdG_len : ∀ (f : Nat) (l r : List Int), l.length ≤ 10 → rdG f l = some r → r.length ≤ 10 := by
  intro f
  induction f with
  | zero => intro l r _ h; simp [rdG] at h
  | succ f ih =>
    intro l r hl h
    unfold rdG at h
    split at h
    · injection h with h; subst h; exact hl
    · split at h
      · rename_i hg
        exact ih _ _ (good_iff.1 hg).1 h
      · cases h
def roR (l : List Int) : Option (List Int) := if good l = true then rdG (l.length + 1) l else none
theorem roR_length (l : List Int) : (optL (roR l)).length ≤ 1000000000 := optL_length fun r h => by
  unfold roR at h
  split at h
  · rename_i hg
    have := rdG_len _ _ _ (good_iff.1 hg).1 h
    omega
  · cases h
/-- first1 as the program's two results -/
def f1I (l : List Int) : Int := match first1 l with
  | none => 0
  | some k => (k : Int)
def f1B (l : List Int) : Bool := (first1 l).isSome
end Go.Proofs.Ytfkkbjbgjmaciaa

/- RedW: ReduceOnes: the model's and the program's contract, and the law's walk. -/
namespace Go.Proofs.Ytfkkbjbgjmaciaa
open Go.RowKit

def lenV : Value → Nat
  | .slice _ n _ => n
  | _ => 0
theorem slices_Clone_at (A : Option Addr) (n c B : Nat) (l : List Int) (w : World) (hn : l.length = n) (h : SlI w B A l) (hB : B ≤ w.heap.size) (hl : n ≤ 1000000) :
    Calls Try.prog 117 #[.slice A n c] w fun e w' => ∃ A' c', e = .returned (.slice A' n c') ∧ w'.ownsRow w.heap.size 3 1 (.slice A' n c') n (ics l) ∧ Below w.heap.size w w' := by
  cases A with
  | none =>
    have h0 : n = 0 := by
      rcases Nat.eq_zero_or_pos n with e | e
      · exact e
      · obtain ⟨b, off, he, _⟩ := h (by omega)
        cases he
    subst h0
    obtain rfl : l = [] := List.eq_nil_of_length_eq_zero hn
    have he : ∀ w : World, (binOp .eql 24 (.slice none 0 c) (.slice none 0 0)).run Try.prog w = .ok (.bool true) w := fun w => Lib.run_eql_slice_nil w 24 3 none 0 c 0 0 Try.underlying24
    have hE : ∃ A' c', Ending.returned (.slice none 0 0) = .returned (.slice A' 0 c') ∧ w.ownsRow w.heap.size 3 1 (.slice A' 0 c') 0 (ics []) ∧ Below w.heap.size w w := ⟨none, 0, rfl, World.ownsRow_nil _ _ _ _, Below.refl _ _⟩
    have HE := Lib.hid hE
    clear hE h hn
    go_enter Try.func117, Try.ntmps117
    go_wp2
    go_ret
    exact HE.out
  | some ad =>
    have he : ∀ w : World, (binOp .eql 24 (.slice (some ad) n c) (.slice none 0 0)).run Try.prog w = .ok (.bool false) w := fun w => Lib.run_eql_slice_nil w 24 3 (some ad) n c 0 0 Try.underlying24
    have own0 := own_madeI w (B := w.heap.size) (Nat.le_refl _)
    have hb0 : Below w.heap.size w (w.alloc (.cells #[] 3)) := (Below.refl w.heap.size w).alloc (Nat.le_refl _) _
    have Hs := Lib.hid (h.below (hb0.mono hB))
    have Hn := Lib.hid hn
    have Hb0 := Lib.hid hb0
    clear hn h hb0
    go_enter Try.func117, Try.ntmps117
    go_wp2_with (at_builtin; refine wpList_appendNI _ rfl _ _ rfl w.heap.size (.slice (some ⟨w.heap.size, 0, none⟩) 0 0) 0 [] rfl rfl own0 (some ad) n c l B n (Nat.zero_add n).symm rfl Hn.out Hs.out (by omega) hl Hb0.out.size ?_; intro A3 c3 w3 own3 hg3)
    have hb3 := Hb0.out.grown hg3 Hb0.out.size (above_blk (Nat.le_refl _))
    have hE : ∃ A' c', Ending.returned (.slice A3 n c3) = .returned (.slice A' n c') ∧ w3.ownsRow w.heap.size 3 1 (.slice A' n c') n (ics l) ∧ Below w.heap.size w w3 := ⟨A3, c3, rfl, own3, hb3⟩
    have HE := Lib.hid hE
    clear hE own3 hg3 hb3 own0 he
    go_wp2
    go_ret
    exact HE.out

def FoEnd (l : List Int) (w : World) (e : Ending) (w' : World) : Prop := e = .returned (.tuple #[.int .i64 (f1I l), .bool (f1B l)]) ∧ w = w'
set_option maxHeartbeats 800000 in
theorem impl_firstInnerOne (A : Option Addr) (n c B : Nat) (l : List Int) (w : World) (hn : l.length = n) (hl : n ≤ 1000) (h : SlI w B A l) :
    Calls Try.prog 118 #[.slice A n c] w (FoEnd l w) := by
  have Hn := Lib.hid hn
  have hyes : ∀ k : Nat, first1 l = some k → FoEnd l w (.returned (.tuple #[.int .i64 k, .bool true])) w := fun k e => by unfold FoEnd f1I f1B; rw [e]; exact ⟨rfl, rfl⟩
  have hno : first1 l = none → FoEnd l w (.returned (.tuple #[.int .i64 0, .bool false])) w := fun e => by unfold FoEnd f1I f1B; rw [e]; exact ⟨rfl, rfl⟩
  have Hyes := Lib.hid hyes
  have Hno := Lib.hid hno
  have H := Lib.hid h
  clear hyes hno hn h
  go_enter Try.func118, Try.ntmps118
  go_wp2
  go_loop [4] (fun i => ∃ k : Nat, 1 ≤ k ∧ (k ≤ n ∨ k = 1) ∧ i = .int .i64 k ∧ f1 l k (n - 1 - k) = first1 l) (fun i => n + 2 - (intOf i).toNat)
  case atStart => exact ⟨1, Nat.le_refl _, .inr rfl, rfl, f1_start Hn.out⟩
  case round =>
    obtain ⟨k, hk1, hkn, rfl, hf⟩ := hrel
    by_cases hlt : k + 1 < n
    · obtain ⟨b, off, rfl, hb, hc⟩ := H.out (by have := Hn.out; omega)
      have g0 := hc k (by have := Hn.out; omega)
      have i0 : (0 : Int) ≤ (k : Int) := by omega
      have i1 : (k : Int) < (n : Int) := by omega
      have i2 : (k : Int) + 1 < (n : Int) := by omega
      by_cases hx : l.getD k 0 = 1
      · have hE := Hyes.out k (by rw [← hf]; exact f1_hit hlt hx)
        have HE := Lib.hid hE
        rw [hx] at g0
        clear hE hf hx hc
        go_wp2
        go_ret2
        exact HE.out
      · have hst : f1 l (k + 1) (n - 1 - (k + 1)) = first1 l := by rw [← f1_miss hlt hx]; exact hf
        have Hst := Lib.hid hst
        have hx' : (l.getD k 0 == 1) = false := by rw [beq_eq_false_iff_ne]; exact hx
        generalize l.getD k 0 = x at *
        clear hst hf hx hc
        go_wp2
        go_round
        case rel => exact ⟨k + 1, by omega, .inl (by omega), by go_num, Hst.out⟩
        case measure => simp [intOf]; omega
    · have hE := Hno.out (by rw [← hf]; exact f1_end (by omega))
      have HE := Lib.hid hE
      have i2 : ¬ (k : Int) + 1 < (n : Int) := by omega
      clear hE hf
      go_wp2
      go_ret2
      exact HE.out

theorem roR_no {l : List Int} (h : good l = false) : roR l = none := if_neg (by rw [h]; simp)
theorem roR_yes {l : List Int} (h : good l = true) : roR l = rdG (l.length + 1) l := if_pos h

set_option maxRecDepth 100000 in
set_option maxHeartbeats 3200000 in
theorem spec_ReduceOnes (A : Option Addr) (c B : Nat) (l0 : List Int) (w : World) (h : SlI w B A l0) (hB : B ≤ w.heap.size) (hl : l0.length ≤ 1048576) :
    Calls Try.prog 43 #[.slice A l0.length c] w (RetI w (optL (roR l0)) (roR l0).isSome) := by
  obtain ⟨n0, hn0⟩ : ∃ n, l0.length = n := ⟨_, rfl⟩
  rw [hn0] at hl ⊢
  have Hn0 := Lib.hid hn0
  go_enter Try.func43, Try.ntmps43
  go_wp2_with fail
  refine (spec_ctGood A _ c B l0 _ Hn0.out h hl).mono ?_
  rintro e w1 ⟨rfl, rfl⟩
  cases hg : good l0
  · have HE := Lib.hid (retO_no (R := roR l0) (w := w) (roR_no hg) (Below.refl _ _))
    clear h hn0 hg
    go_wp2
    go_ret2
    exact HE.out
  · have h10 := (good_iff.1 hg).1
    have HR := Lib.hid (roR_yes hg)
    have Hg := Lib.hid hg
    have hn10 : n0 ≤ 10 := by omega
    clear hn0 hg h10
    go_wp2_with fail
    refine (spec_l1Own_at A n0 c B l0 _ Hn0.out h hB (by omega)).mono ?_
    rintro e w2 ⟨A2, c2, rfl, o2, b2⟩
    have O2 := Lib.hid o2
    have B2 := Lib.hid b2
    generalize roR l0 = R at *
    have HR2 : Hid (R = rdG (n0 + 1) l0) := Lib.hid (by rw [HR.out, Hn0.out])
    clear h o2 b2 HR
    go_wp2
    go_loopw [4, 5, 6, 7] (fun v i _ _ wr => ∃ (k n f : Nat) (l : List Int) (A' : Option Addr) (c' : Nat), l.length = n ∧ n ≤ 10 ∧ Small l ∧ n + 1 ≤ f ∧ 1 ≤ k ∧ (k ≤ n ∨ k = 1) ∧ v = .slice A' n c' ∧ i = .int .i64 k ∧ f1 l k (n - 1 - k) = first1 l ∧ R = rdG f l ∧ wr.ownsRow w.heap.size 3 1 (.slice A' n c') n (ics l) ∧ Below w.heap.size w wr) (fun v i _ _ _ => lenV v * 20 + (20 - (intOf i).toNat))
    case atStart => exact ⟨1, n0, n0 + 1, l0, A2, c2, Hn0.out, hn10, good_small Hg.out, Nat.le_refl _, Nat.le_refl _, .inr rfl, rfl, rfl, f1_start Hn0.out, HR2.out, O2.out, B2.out⟩
    case round =>
      clear HR2 O2 B2
      obtain ⟨k, n, f, l, A', c', hln, hn10, hsm, hnf, hk1, hkn, rfl, rfl, hf1, hR, ho, hb⟩ := hrel
      obtain ⟨f', rfl⟩ : ∃ f', f = f' + 1 := ⟨f - 1, by omega⟩
      have Hln := Lib.hid hln
      have hs := SlI.of_own (l := l) (by exact ho)
      have hcap := own_capI ho
      by_cases hlt : k + 1 < n
      · obtain ⟨b', off, rfl, hbB, hc⟩ := hs (by omega)
        have g0 := hc k (by omega)
        have i0 : (0 : Int) ≤ (k : Int) := by omega
        have i1 : (k : Int) < (n : Int) := by omega
        have i2 : (k : Int) + 1 < (n : Int) := by omega
        have k10 : (k : Int) ≤ 20 := by omega
        by_cases hx : l.getD k 0 = 1
        · have hfs : first1 l = some k := by rw [← hf1]; exact f1_hit hlt hx
          have hR2 := hR.trans (rdG_some hfs)
          have HR2 := Lib.hid hR2
          have Hcall := Lib.hid (spec_ctTake (some ⟨b', off, none⟩) n c' wr.heap.size l k wr hln (SlI.of_own (l := l) ho) (Nat.le_refl _) hsm hn10 hcap hk1 hlt)
          have hlen2 : (takL l k).length = n - 1 := by rw [takL_length l k (by omega), hln]
          have Hlen2 := Lib.hid hlen2
          have hsz := hb.size
          have Hb := Lib.hid hb
          rw [hx] at g0
          clear hR hR2 hfs hx hc hs ho hln hsm hf1 hlen2 hb
          go_wp2_with fail
          refine Hcall.out.mono ?_
          rintro e w3 ⟨A3, c3, rfl, o3, b3⟩
          rw [Hlen2.out] at o3 ⊢
          have Hb3 := Lib.hid (below_kept Hb.out (Nat.le_refl _) b3)
          have Ho3 := Lib.hid (o3.mono hsz)
          clear o3 b3 g0
          cases hgd : good (takL l k)
          · have hE := retO_no (w := w) (HR2.out.trans (if_neg (by rw [hgd]; simp))) Hb3.out
            have HE := Lib.hid hE
            clear hE hgd
            go_wp2
            go_ret2
            exact HE.out
          · have HR3 := Lib.hid (HR2.out.trans (if_pos hgd))
            have Hsm3 := Lib.hid (good_small hgd)
            clear hgd
            go_wp2
            go_roundw
            case rel => exact ⟨1, n - 1, f', takL l k, A3, c3, Hlen2.out, by omega, Hsm3.out, by omega, Nat.le_refl _, .inr rfl, rfl, rfl, f1_start Hlen2.out, HR3.out, Ho3.out, Hb3.out⟩
            case measure => simp [intOf, lenV]; omega
        · have hst : f1 l (k + 1) (n - 1 - (k + 1)) = first1 l := by rw [← f1_miss hlt hx]; exact hf1
          have Hst := Lib.hid hst
          have hx' : (l.getD k 0 != 1) = true := by simpa using hx
          have HR1 := Lib.hid hR
          have Ho := Lib.hid ho
          have Hb := Lib.hid hb
          have Hsm := Lib.hid hsm
          generalize l.getD k 0 = x at *
          clear hst hf1 hx hc hs hR ho hb hsm hln
          go_wp2
          go_roundw
          case rel => exact ⟨k + 1, n, f' + 1, l, _, c', Hln.out, hn10, Hsm.out, hnf, by omega, .inl (by omega), rfl, by go_num, Hst.out, HR1.out, Ho.out, Hb.out⟩
          case measure => simp [intOf, lenV]; omega
      · have hfs : first1 l = none := by rw [← hf1]; exact f1_end (by omega)
        have hE := retO_yes (w := w) (hR.trans (rdG_none hfs)) hln ho hb
        have HE := Lib.hid hE
        have i2 : ¬ (k : Int) + 1 < (n : Int) := by omega
        have k10 : (k : Int) ≤ 20 := by omega
        clear hE hR hfs hf1 hs ho hb hln hsm
        go_wp2
        go_ret2
        exact HE.out

set_option maxRecDepth 100000 in
set_option maxHeartbeats 3200000 in
theorem impl_ReduceOnes (A : Option Addr) (c B : Nat) (l0 : List Int) (w : World) (h : SlI w B A l0) (hB : B ≤ w.heap.size) (hl : l0.length ≤ 1048576) :
    Calls Try.prog 42 #[.slice A l0.length c] w (RetI w (optL (roR l0)) (roR l0).isSome) := by
  obtain ⟨n0, hn0⟩ : ∃ n, l0.length = n := ⟨_, rfl⟩
  rw [hn0] at hl ⊢
  have Hn0 := Lib.hid hn0
  go_enter Try.func42, Try.ntmps42
  go_wp2_with fail
  refine (impl_IsTermList A _ c B l0 _ Hn0.out h hl).mono ?_
  rintro e w1 ⟨rfl, rfl⟩
  cases hg : good l0
  · have HE := Lib.hid (retO_no (R := roR l0) (w := w) (roR_no hg) (Below.refl _ _))
    clear h hn0 hg
    go_wp2
    go_ret2
    exact HE.out
  · have h10 := (good_iff.1 hg).1
    have HR := Lib.hid (roR_yes hg)
    have Hg := Lib.hid hg
    have hn10 : n0 ≤ 10 := by omega
    clear hn0 hg h10
    go_wp2_with fail
    refine (slices_Clone_at A n0 c B l0 _ Hn0.out h hB (by omega)).mono ?_
    rintro e w2 ⟨A2, c2, rfl, o2, b2⟩
    have Hs2 := Lib.hid (SlI.of_own (l := l0) o2)
    have O2 := Lib.hid o2
    have B2 := Lib.hid b2
    generalize roR l0 = R at *
    have HR2 : Hid (R = rdG (n0 + 1) l0) := Lib.hid (by rw [HR.out, Hn0.out])
    clear h o2 b2 HR
    go_wp2_with fail
    refine (impl_firstInnerOne A2 n0 c2 _ l0 _ Hn0.out (by omega) Hs2.out).mono ?_
    rintro e w3 ⟨rfl, rfl⟩
    obtain ⟨x0, hx0⟩ : ∃ x, f1I l0 = x := ⟨_, rfl⟩
    obtain ⟨y0, hy0⟩ : ∃ y, f1B l0 = y := ⟨_, rfl⟩
    rw [hx0, hy0]
    have Hx0 := Lib.hid hx0
    have Hy0 := Lib.hid hy0
    clear hx0 hy0
    go_wp2
    go_loopw [4, 5, 6, 7, 8] (fun v i fd _ _ wr => ∃ (n f : Nat) (x : Int) (y : Bool) (l : List Int) (A' : Option Addr) (c' : Nat), l.length = n ∧ n ≤ 10 ∧ Small l ∧ n + 1 ≤ f ∧ f1I l = x ∧ f1B l = y ∧ v = .slice A' n c' ∧ i = .int .i64 x ∧ fd = .bool y ∧ R = rdG f l ∧ wr.ownsRow w.heap.size 3 1 (.slice A' n c') n (ics l) ∧ Below w.heap.size w wr) (fun v _ _ _ _ _ => lenV v)
    case atStart => exact ⟨n0, n0 + 1, x0, y0, l0, A2, c2, Hn0.out, hn10, good_small Hg.out, Nat.le_refl _, Hx0.out, Hy0.out, rfl, rfl, rfl, HR2.out, O2.out, B2.out⟩
    case round =>
      clear HR2 O2 B2 Hx0 Hy0 Hs2
      obtain ⟨n, f, x, y, l, A', c', hln, hn10, hsm, hnf, hx, hy, rfl, rfl, rfl, hR, ho, hb⟩ := hrel
      obtain ⟨f', rfl⟩ : ∃ f', f = f' + 1 := ⟨f - 1, by omega⟩
      have hcap := own_capI ho
      have hsz := hb.size
      cases hf : first1 l with
      | none =>
        have hy1 : y = false := by rw [← hy]; unfold f1B; rw [hf]; rfl
        have hE := retO_yes (w := w) (hR.trans (rdG_none hf)) hln ho hb
        have HE := Lib.hid hE
        subst hy1
        clear hE hR hf hx hy ho hb hln hsm
        go_wp2
        go_ret2
        exact HE.out
      | some k =>
        have hy1 : y = true := by rw [← hy]; unfold f1B; rw [hf]; rfl
        have hx1 : x = (k : Int) := by rw [← hx]; unfold f1I; rw [hf]
        obtain ⟨hk1, hk2, hk3⟩ := first1_bd hf
        have hR2 := hR.trans (rdG_some hf)
        have hgl : good l = true := by
          unfold good
          rw [Bool.and_eq_true, decide_eq_true_eq, allB_iff]
          exact ⟨by omega, fun i hi => hsm.get i hi⟩
        have hto := toR_at hgl hk1 (by omega) hk3
        have HR2 := Lib.hid (hR2)
        have Hto := Lib.hid hto
        have Hcall := Lib.hid (impl_TakeOne A' n c' wr.heap.size l (k : Int) wr hln (SlI.of_own (l := l) (by exact ho)) (Nat.le_refl _) (by omega) hcap)
        have Hlen2 : Hid ((takL l k).length = n - 1) := Lib.hid (by rw [takL_length l k (by omega), hln])
        have Hb := Lib.hid hb
        have hn2 : 2 ≤ n := by omega
        subst hy1
        subst hx1
        clear hx hy hR hR2 hf ho hb hln hsm hk3 hgl hto
        go_wp2_with fail
        refine Hcall.out.mono ?_
        rintro e w3 ⟨A3, c3, rfl, o3, b3⟩
        cases hgd : good (takL l k)
        · have ht : toR l (k : Int) = none := Hto.out.trans (if_neg (by rw [hgd]; simp))
          rw [ht]
          have hE := retO_no (w := w) (HR2.out.trans (if_neg (by rw [hgd]; simp))) (below_kept Hb.out (Nat.le_refl _) b3)
          have HE := Lib.hid hE
          clear hE hgd ht o3 b3
          go_wp2
          go_ret2
          exact HE.out
        · have ht : toR l (k : Int) = some (takL l k) := Hto.out.trans (if_pos hgd)
          rw [ht] at o3 ⊢
          have hol : (optL (some (takL l k))).length = n - 1 := Hlen2.out
          rw [hol] at o3 ⊢
          have o4 : w3.ownsRow wr.heap.size 3 1 (.slice A3 (n - 1) c3) (n - 1) (ics (takL l k)) := o3
          have HR3 := Lib.hid (HR2.out.trans (if_pos hgd))
          have Hsm3 := Lib.hid (good_small hgd)
          have Hs3 := Lib.hid (SlI.of_own (l := takL l k) o4)
          have Ho3 := Lib.hid (o4.mono hsz)
          have Hb3 := Lib.hid (below_kept Hb.out (Nat.le_refl _) b3)
          clear hgd ht hol o3 o4 b3
          go_wp2_with fail
          refine (impl_firstInnerOne A3 (n - 1) c3 _ (takL l k) _ Hlen2.out (by omega) Hs3.out).mono ?_
          rintro e w4 ⟨rfl, rfl⟩
          obtain ⟨x1, hx1⟩ : ∃ x, f1I (takL l k) = x := ⟨_, rfl⟩
          obtain ⟨y1, hy1⟩ : ∃ y, f1B (takL l k) = y := ⟨_, rfl⟩
          rw [hx1, hy1]
          have Hx1 := Lib.hid hx1
          have Hy1 := Lib.hid hy1
          clear hx1 hy1
          go_wp2
          go_roundw
          case rel => exact ⟨n - 1, f', x1, y1, takL l k, A3, c3, Hlen2.out, by omega, Hsm3.out, by omega, Hx1.out, Hy1.out, rfl, rfl, rfl, HR3.out, Ho3.out, Hb3.out⟩
          case measure => simp [lenV]; omega


end Go.Proofs.Ytfkkbjbgjmaciaa

/- CcN: Matrices of lists, and what closes: ones put in, turned lists, lists backwards. Plain mathematics. -/
namespace Go.Proofs.Ytfkkbjbgjmaciaa
open Go.RowKit

theorem ctF_run : ∀ (l : List Int) (p : Int × Int), ctF (-1) p l = runS l p
  | [], _ => rfl
  | x :: r, p => by
    rw [ctF_cons, ctF_run r]
    show runS r (p.2, x * p.2 + -1 * p.1) = runS r (p.2, x * p.2 - p.1)
    congr 2
    omega
theorem mlR_run (l : List Int) : mlR l = ⟨(runS l (0, 1)).2, -(runS l (0, 1)).1, (runS l (-1, 0)).2, -(runS l (-1, 0)).1⟩ := by
  have h := foldSq l (0, 1) (-1, 0)
  rw [ctF_run, ctF_run] at h
  rw [← prodSq]
  exact h
theorem run_lin : ∀ (l : List Int) (x y : Int) (u v : Int × Int), runS l (x * u.1 + y * v.1, x * u.2 + y * v.2) = (x * (runS l u).1 + y * (runS l v).1, x * (runS l u).2 + y * (runS l v).2)
  | [], _, _, _, _ => rfl
  | a :: r, x, y, u, v => by
    have h := run_lin r x y (stp a u) (stp a v)
    show runS r (stp a _) = _
    rw [show stp a (x * u.1 + y * v.1, x * u.2 + y * v.2) = (x * (stp a u).1 + y * (stp a v).1, x * (stp a u).2 + y * (stp a v).2) from ?_]
    · exact h
    · unfold stp
      refine Prod.ext ?_ ?_ <;> dsimp only <;> grind
theorem closes_neg {l : List Int} : (mlR l).eqB ⟨-1, 0, 0, -1⟩ = true ↔ NegL l := by
  rw [M4.eqB_iff, mlR_run]
  constructor
  · intro h p
    obtain ⟨x, y⟩ := p
    have h1 := congrArg M4.a h
    have h2 := congrArg M4.b h
    have h3 := congrArg M4.c h
    have h4 := congrArg M4.d h
    dsimp only at h1 h2 h3 h4
    have e := run_lin l y (-x) (0, 1) (-1, 0)
    dsimp only at e
    rw [show y * 0 + -x * -1 = x by omega, show y * 1 + -x * 0 = y by omega] at e
    rw [e]
    refine Prod.ext ?_ ?_ <;> dsimp only
    · rw [show (runS l (0, 1)).1 = 0 by omega, show (runS l (-1, 0)).1 = 1 by omega]; omega
    · rw [h1, h3]; omega
  · intro h
    rw [h (0, 1), h (-1, 0)]
    rfl
theorem mlR_same {l r : List Int} (h : ∀ p, runS l p = runS r p) : mlR l = mlR r := by
  rw [mlR_run, mlR_run, h, h]
theorem set_mid (P : List Int) (a b : Int) (S : List Int) {k : Nat} (hk : k = P.length) : (P ++ a :: S).set k b = P ++ b :: S := by
  subst hk
  simp [List.set_append]
theorem incr_mid (P : List Int) (a : Int) (S : List Int) {k : Nat} (hk : k = P.length) : incr (P ++ a :: S) k = P ++ (a + 1) :: S := by
  subst hk
  unfold incr
  simp [List.set_append, List.getD_eq_getElem?_getD]
theorem put_run {l : List Int} {k : Nat} (h1 : 1 ≤ k) (h2 : k < l.length) (p : Int × Int) : runS (putL l k) p = runS l p := by
  obtain ⟨P, a, b, S, rfl, hk⟩ : ∃ P a b S, l = P ++ a :: b :: S ∧ k = P.length + 1 := by
    refine ⟨l.take (k - 1), l[k - 1], l[k], l.drop (k + 1), ?_, by simp; omega⟩
    have e1 := List.take_append_drop (k - 1) l
    rw [List.drop_eq_getElem_cons (by omega)] at e1
    have e2 : l.drop (k - 1 + 1) = l[k] :: l.drop (k + 1) := by
      simp only [show k - 1 + 1 = k by omega]
      exact List.drop_eq_getElem_cons h2
    rw [e2] at e1
    exact e1.symm
  have e : putL (P ++ a :: b :: S) k = P ++ [a + 1, 1, b + 1] ++ S := by
    subst hk
    unfold putL putB
    rw [show P ++ a :: b :: S = (P ++ [a]) ++ b :: S by simp, List.take_left' (by simp), List.drop_left' (by simp),
      show P ++ [a] ++ [1] ++ b :: S = P ++ a :: (1 :: b :: S) by simp, incr_mid P a _ (by simp), show P ++ (a + 1) :: 1 :: b :: S = (P ++ [a + 1, 1]) ++ b :: S by simp, incr_mid _ b _ (by simp)]
    simp
  rw [e, runS_app, runS_app, ear_run, show P ++ a :: b :: S = P ++ [a, b] ++ S by simp, runS_app, runS_app]
  simp only [Int.add_sub_cancel]
theorem put_mlR {l : List Int} {k : Nat} (h1 : 1 ≤ k) (h2 : k < l.length) : mlR (putL l k) = mlR l := mlR_same (put_run h1 h2)

/-- what MatrixOfList tells -/
def mlA (l : List Int) : M4 := if good l = true then (mlR l).fit else M4.zero
def mlK (l : List Int) : Bool := good l && (mlR l).ok
theorem mlK_iff {l : List Int} : mlK l = true ↔ good l = true ∧ (mlR l).ok = true := by unfold mlK; simp
theorem mlA_yes {l : List Int} (h : mlK l = true) : mlA l = mlR l := by
  obtain ⟨h1, h2⟩ := mlK_iff.1 h
  unfold mlA
  rw [if_pos h1, M4.fit_yes h2]
/-- what ClosesUp tells -/
def clB (l : List Int) : Bool := good l && (mlR l).eqB ⟨-1, 0, 0, -1⟩
theorem clB_iff {l : List Int} : clB l = true ↔ good l = true ∧ NegL l := by unfold clB; rw [Bool.and_eq_true, closes_neg]
theorem good_of {l r : List Int} (h : good l = true) (hl : r.length = l.length) (hm : ∀ x ∈ r, x ∈ l) : good r = true := by
  have hs := good_small h
  obtain ⟨h1, _⟩ := good_iff.1 h
  refine good_iff.2 ⟨by omega, fun i hi => ?_⟩
  have e : r.getD i 0 = r[i] := by simp [List.getD_eq_getElem?_getD, hi]
  rw [e]
  exact hs _ (hm _ (List.getElem_mem hi))
theorem clB_turned {l : List Int} (h : clB l = true) (h0 : 0 < l.length) : clB (l.drop 1 ++ [l.getD 0 0]) = true := by
  obtain ⟨h1, h2⟩ := clB_iff.1 h
  cases l with
  | nil => simp at h0
  | cons a r => exact clB_iff.2 ⟨good_of h1 (by simp) (by simp; exact fun x hx => hx.symm), by simpa using neg_rot1 h2⟩
theorem clB_back {l : List Int} (h : clB l = true) : clB l.reverse = true := by
  obtain ⟨h1, h2⟩ := clB_iff.1 h
  exact clB_iff.2 ⟨good_of h1 (by simp) (by simp), neg_back h2⟩
theorem clB_isQ {l : List Int} (hg : good l = true) (h : isQ l = true) : clB l = true := clB_iff.2 ⟨hg, isQ_neg h⟩
/-- the sum -/
def sumI : List Int → Int
  | [] => 0
  | a :: r => a + sumI r
theorem sm3_sum : ∀ l : List Int, sm3 l = 3 * (l.length : Int) - sumI l
  | [] => rfl
  | a :: r => by
    have := sm3_sum r
    simp only [sm3, sumI, List.length_cons, this]
    omega
theorem isQ_clB {l : List Int} (h3 : 3 ≤ l.length) (hp : ∀ x ∈ l, 1 ≤ x) (h : clB l = true) (hs : sumI l = 3 * (l.length : Int) - 6) : isQ l = true := by
  obtain ⟨h1, h2⟩ := clB_iff.1 h
  obtain ⟨h4, _⟩ := good_iff.1 h1
  exact cc_isQ h3 (by omega) hp h2 (by rw [sm3_sum]; omega)
theorem sumI_take (l : List Int) (k : Nat) (h : k < l.length) : sumI (l.take (k + 1)) = sumI (l.take k) + l.getD k 0 := by
  rw [take_snoc' l k h]
  have : ∀ (u : List Int) (x : Int), sumI (u ++ [x]) = sumI u + x := by
    intro u x
    induction u with
    | nil => simp [sumI]
    | cons a u ih => simp only [List.cons_append, sumI, ih]; omega
  exact this _ _
theorem sumI_bd {l : List Int} (h : Small l) : ∀ k, k ≤ l.length → -(30 * (k : Int)) ≤ sumI (l.take k) ∧ sumI (l.take k) ≤ 30 * (k : Int) := by
  intro k
  induction k with
  | zero => intro _; simp [sumI]
  | succ k ih =>
    intro hk
    have := ih (by omega)
    have hx := h.get k (by omega)
    rw [sumI_take l k (by omega)]
    omega
end Go.Proofs.Ytfkkbjbgjmaciaa

/- CcK: Continuants: backwards, split at a place, the determinant of four neighbours. Plain mathematics. -/
namespace Go.Proofs.Ytfkkbjbgjmaciaa
open Go.RowKit

theorem ctv_run (l : List Int) : ctv (-1) l = (runS l (0, 1)).2 := by
  rw [← ctF_run]
  rfl
theorem ctS_run (l : List Int) : ctS (-1) l = runS l (0, 1) := by
  rw [← ctF_run]
  rfl
theorem run_det : ∀ (l : List Int) (u v : Int × Int), (runS l u).1 * (runS l v).2 - (runS l u).2 * (runS l v).1 = u.1 * v.2 - u.2 * v.1
  | [], _, _ => rfl
  | a :: r, u, v => by
    have h := run_det r (stp a u) (stp a v)
    show (runS r (stp a u)).1 * (runS r (stp a v)).2 - (runS r (stp a u)).2 * (runS r (stp a v)).1 = _
    rw [h]
    unfold stp
    dsimp only
    grind
/-- backwards -/
theorem ctv_rev (l : List Int) : ctv (-1) l.reverse = ctv (-1) l := by
  have h1 := run_back l (0, 1)
  have h2 := run_back l (1, 0)
  have hd := run_det l (0, 1) (1, 0)
  have hl := run_lin l.reverse (-(runS l (1, 0)).2) (runS l (0, 1)).2 ((runS l (0, 1)).2, (runS l (0, 1)).1) ((runS l (1, 0)).2, (runS l (1, 0)).1)
  rw [h1, h2] at hl
  dsimp only at hl hd
  generalize (runS l (0, 1)).1 = a at *
  generalize hb : (runS l (0, 1)).2 = b at *
  generalize (runS l (1, 0)).1 = c at *
  generalize (runS l (1, 0)).2 = d at *
  rw [show -d * b + b * d = 0 by grind, show -d * a + b * c = 1 by grind] at hl
  rw [ctv_run, ctv_run, hl, hb]
  dsimp only
  grind
/-- what (1, 0) becomes -/
theorem run_one (a : Int) (r : List Int) : runS (a :: r) (1, 0) = (-(runS r (0, 1)).1, -(runS r (0, 1)).2) := by
  show runS r (0, a * 0 - 1) = _
  rw [show ((0 : Int), a * 0 - 1) = (-0, -1) by simp, run_neg]
/-- split at a place -/
theorem ctv_split (P S : List Int) (a x : Int) : ctv (-1) (P ++ [a] ++ x :: S) = ctv (-1) (P ++ [a]) * ctv (-1) (x :: S) - ctv (-1) P * ctv (-1) S := by
  have e : runS (P ++ [a]) (0, 1) = (ctv (-1) P, ctv (-1) (P ++ [a])) := by
    rw [← ctS_run, ctS_snoc]
    refine Prod.ext rfl ?_
    show _ = (ctS (-1) (P ++ [a])).2
    rw [ctS_snoc]
  have hl := run_lin (x :: S) (ctv (-1) P) (ctv (-1) (P ++ [a])) (1, 0) (0, 1)
  dsimp only at hl
  rw [run_one] at hl
  rw [ctv_run, runS_app, e, show (ctv (-1) P, ctv (-1) (P ++ [a])) = (ctv (-1) P * 1 + ctv (-1) (P ++ [a]) * 0, ctv (-1) P * 0 + ctv (-1) (P ++ [a]) * 1) by simp, hl, ctv_run (x :: S), ctv_run S]
  dsimp only
  rw [Int.mul_neg]
  omega
/-- four neighbours: the determinant is one -/
theorem ctv_four (a x : Int) (M : List Int) : ctv (-1) (a :: M) * ctv (-1) (M ++ [x]) - ctv (-1) (a :: (M ++ [x])) * ctv (-1) M = 1 := by
  have hd := run_det (a :: (M ++ [x])) (0, 1) (1, 0)
  rw [run_one] at hd
  have e1 : runS (a :: (M ++ [x])) (0, 1) = (ctv (-1) (a :: M), ctv (-1) (a :: (M ++ [x]))) := by
    rw [← ctS_run, show a :: (M ++ [x]) = (a :: M) ++ [x] from rfl, ctS_snoc]
    refine Prod.ext rfl ?_
    show _ = (ctS (-1) ((a :: M) ++ [x])).2
    rw [ctS_snoc]
  have e2 : runS (M ++ [x]) (0, 1) = (ctv (-1) M, ctv (-1) (M ++ [x])) := by
    rw [← ctS_run, ctS_snoc]
    refine Prod.ext rfl ?_
    show _ = (ctS (-1) (M ++ [x])).2
    rw [ctS_snoc]
  rw [e1, e2] at hd
  dsimp only at hd
  rw [Int.mul_neg, Int.mul_neg] at hd
  omega
end Go.Proofs.Ytfkkbjbgjmaciaa

/- CcL: Ones put in and taken out: the list that comes back, the continuant that stays. Plain mathematics. -/
namespace Go.Proofs.Ytfkkbjbgjmaciaa
open Go.RowKit

theorem at_mid {l : List Int} {k : Nat} (h1 : 1 ≤ k) (h2 : k + 1 < l.length) : ∃ P a b c S, l = P ++ a :: b :: c :: S ∧ k = P.length + 1 := by
  refine ⟨l.take (k - 1), l[k - 1], l[k], l[k + 1], l.drop (k + 2), ?_, by simp; omega⟩
  have e1 := List.take_append_drop (k - 1) l
  rw [List.drop_eq_getElem_cons (by omega)] at e1
  have e2 : l.drop (k - 1 + 1) = l[k] :: l.drop (k + 1) := by
    simp only [show k - 1 + 1 = k by omega]
    exact List.drop_eq_getElem_cons (by omega)
  rw [e2, List.drop_eq_getElem_cons (show k + 1 < l.length from h2)] at e1
  exact e1.symm
theorem take_mid (P S : List Int) (a x c : Int) : takL (P ++ a :: x :: c :: S) (P.length + 1) = P ++ (a - 1) :: (c - 1) :: S := by
  unfold takL takB
  rw [show P ++ a :: x :: c :: S = (P ++ [a]) ++ x :: c :: S by simp, List.take_left' (by simp), show (P ++ [a]) ++ x :: c :: S = (P ++ [a, x]) ++ c :: S by simp, List.drop_left' (by simp),
    show P ++ [a] ++ c :: S = P ++ a :: (c :: S) by simp, decr_mid P a _ (by simp), show P ++ (a - 1) :: c :: S = (P ++ [a - 1]) ++ c :: S by simp, decr_mid _ c _ (by simp)]
  simp
theorem put_mid (P S : List Int) (a b : Int) : putL (P ++ a :: b :: S) (P.length + 1) = P ++ (a + 1) :: 1 :: (b + 1) :: S := by
  unfold putL putB
  rw [show P ++ a :: b :: S = (P ++ [a]) ++ b :: S by simp, List.take_left' (by simp), List.drop_left' (by simp),
    show P ++ [a] ++ [1] ++ b :: S = P ++ a :: (1 :: b :: S) by simp, incr_mid P a _ (by simp), show P ++ (a + 1) :: 1 :: b :: S = (P ++ [a + 1, 1]) ++ b :: S by simp, incr_mid _ b _ (by simp)]
  simp
theorem at_pair {l : List Int} {k : Nat} (h1 : 1 ≤ k) (h2 : k < l.length) : ∃ P a b S, l = P ++ a :: b :: S ∧ k = P.length + 1 := by
  refine ⟨l.take (k - 1), l[k - 1], l[k], l.drop (k + 1), ?_, by simp; omega⟩
  have e1 := List.take_append_drop (k - 1) l
  rw [List.drop_eq_getElem_cons (by omega)] at e1
  have e2 : l.drop (k - 1 + 1) = l[k] :: l.drop (k + 1) := by
    simp only [show k - 1 + 1 = k by omega]
    exact List.drop_eq_getElem_cons h2
  rw [e2] at e1
  exact e1.symm
/-- what is put in comes out again -/
theorem take_put {l : List Int} {k : Nat} (h1 : 1 ≤ k) (h2 : k < l.length) : takL (putL l k) k = l ∧ (putL l k).getD k 0 = 1 := by
  obtain ⟨P, a, b, S, rfl, rfl⟩ := at_pair h1 h2
  rw [put_mid, take_mid]
  constructor
  · simp
  · rw [List.getD_eq_getElem?_getD, List.getElem?_append_right (by omega)]
    simp
theorem poR_some {l r : List Int} {i : Int} (h : poR l i = some r) : ∃ k : Nat, i = k ∧ 1 ≤ k ∧ k < l.length ∧ good l = true ∧ good r = true ∧ r = putL l k := by
  unfold poR at h
  split at h
  · rename_i hc
    obtain ⟨h1, ⟨h2, h3⟩, h4⟩ := hc
    injection h with h
    obtain ⟨k, rfl⟩ := Int.eq_ofNat_of_zero_le (show 0 ≤ i by omega)
    rw [Int.toNat_natCast] at h h4
    exact ⟨k, rfl, by omega, by omega, h1, h ▸ h4, h.symm⟩
  · cases h
theorem put_back {l r : List Int} {i : Int} (h : poR l i = some r) : toR r i = some l ∧ ctv (-1) r = ctv (-1) l ∧ r.getD i.toNat 0 = 1 := by
  obtain ⟨k, rfl, h1, h2, hg, hg2, rfl⟩ := poR_some h
  obtain ⟨e1, e2⟩ := take_put h1 h2
  have hl := putL_length l k (by omega)
  refine ⟨?_, ?_, by rw [Int.toNat_natCast]; exact e2⟩
  · rw [toR_at hg2 h1 (by omega) e2, e1, if_pos hg]
  · rw [ctv_run, ctv_run, put_run h1 h2]
theorem take_run {l : List Int} {k : Nat} (h1 : 1 ≤ k) (h2 : k + 1 < l.length) (hx : l.getD k 0 = 1) (p : Int × Int) : runS (takL l k) p = runS l p := by
  obtain ⟨P, a, b, c, S, rfl, rfl⟩ := at_mid h1 h2
  have hb : b = 1 := by
    rw [List.getD_eq_getElem?_getD, List.getElem?_append_right (by omega)] at hx
    simpa using hx
  subst hb
  rw [take_mid, show P ++ (a - 1) :: (c - 1) :: S = P ++ [a - 1, c - 1] ++ S by simp, show P ++ a :: 1 :: c :: S = P ++ [a, 1, c] ++ S by simp, runS_app, runS_app, runS_app, runS_app, ear_run]
theorem f1_none {l : List Int} : ∀ (d k : Nat), f1 l k d = none → ∀ j, k ≤ j → j < k + d → l.getD j 0 ≠ 1 := by
  intro d
  induction d with
  | zero => intro k _ j h1 h2; omega
  | succ d ih =>
    intro k h j h1 h2
    unfold f1 at h
    split at h
    · cases h
    · rename_i hx
      by_cases e : j = k
      · subst e; exact hx
      · exact ih (k + 1) h j (by omega) (by omega)
/-- ones taken out as long as there are some -/
theorem rdG_tells : ∀ (f : Nat) (l r : List Int), rdG f l = some r → ctv (-1) r = ctv (-1) l ∧ r.length ≤ l.length ∧ ∀ i, 1 ≤ i → i + 1 < r.length → r.getD i 0 ≠ 1 := by
  intro f
  induction f with
  | zero => intro l r h; simp [rdG] at h
  | succ f ih =>
    intro l r h
    cases h1 : first1 l with
    | none =>
      rw [rdG_none h1] at h
      injection h with h
      subst h
      refine ⟨rfl, Nat.le_refl _, fun i hi hl => ?_⟩
      exact f1_none _ _ h1 i hi (by omega)
    | some k =>
      rw [rdG_some h1] at h
      split at h
      · obtain ⟨k1, k2, k3⟩ := first1_bd h1
        obtain ⟨e1, e2, e3⟩ := ih _ _ h
        have hl := takL_length l k (by omega)
        refine ⟨e1.trans ?_, by omega, e3⟩
        rw [ctv_run, ctv_run, take_run k1 k2 k3]
      · cases h
theorem roR_tells {l r : List Int} (h : roR l = some r) : good l = true ∧ ctv (-1) r = ctv (-1) l ∧ r.length ≤ l.length ∧ ∀ i, 1 ≤ i → i + 1 < r.length → r.getD i 0 ≠ 1 := by
  unfold roR at h
  split at h
  · rename_i hg
    exact ⟨hg, rdG_tells _ _ _ h⟩
  · cases h
end Go.Proofs.Ytfkkbjbgjmaciaa

/- CcF: The terms of a fraction tell it again. Plain mathematics. -/
namespace Go.Proofs.Ytfkkbjbgjmaciaa
open Go.RowKit

theorem gcd_up {a b q : Int} (h : Int.gcd a b = 1) : Int.gcd b (q * b - a) = 1 := by
  have h1 : ((Int.gcd b (q * b - a) : Nat) : Int) ∣ b := Int.gcd_dvd_left ..
  have h2 : ((Int.gcd b (q * b - a) : Nat) : Int) ∣ q * b - a := Int.gcd_dvd_right ..
  have h3 : ((Int.gcd b (q * b - a) : Nat) : Int) ∣ a := by
    have := Int.dvd_sub (Int.dvd_mul_of_dvd_right (b := q) h1) h2
    rwa [show q * b - (q * b - a) = a by omega] at this
  have h4 := Int.dvd_coe_gcd h3 h1
  rw [h] at h4
  have h5 : (Int.gcd b (q * b - a)) ∣ 1 := Int.ofNat_dvd.1 h4
  exact Nat.eq_one_of_dvd_one h5
theorem up_tells : ∀ (f : Nat) (num den : Int) (out r : List Int), 1 ≤ num → 1 ≤ den → Int.gcd num den = 1 → tmF upI f num den out = some r →
    ∃ q t, r = out ++ q :: t ∧ frac (-1) (q :: t) = some (num, den) ∧ 1 ≤ q ∧ (den < num → 2 ≤ q) ∧ ∀ x ∈ t, 2 ≤ x := by
  intro f
  induction f with
  | zero => intro num den out r _ _ _ h; simp [tmF] at h
  | succ f ih =>
    intro num den out r hn hd hg h
    unfold tmF at h
    rw [if_neg (by omega)] at h
    split at h
    · obtain ⟨b1, b2, b3, b4, b5⟩ := up_bd (M := max num den) (num := num) (den := den) ⟨by omega, by omega⟩ ⟨hd, by omega⟩
      have hgu := gcd_up (q := (num + den - 1) / den) hg
      have hq1 : 1 ≤ (num + den - 1) / den := by
        by_cases h0 : (num + den - 1) / den = 0
        · rw [h0] at b4; simp at b4; omega
        · omega
      have hq2 : den < num → 2 ≤ (num + den - 1) / den := fun hlt => by
        by_cases h0 : (num + den - 1) / den = 1
        · rw [h0] at b4; omega
        · omega
      unfold upI at h
      dsimp only at h
      generalize (num + den - 1) / den = q at *
      by_cases hr : q * den - num = 0
      · rw [hr] at h hgu
        have hd1 : den = 1 := by simp at hgu; omega
        cases f with
        | zero => simp [tmF] at h
        | succ f =>
          unfold tmF at h
          rw [if_pos rfl] at h
          injection h with h
          subst hd1
          refine ⟨q, [], h.symm, ?_, hq1, hq2, by simp⟩
          unfold frac
          rw [show q = num by omega]
      · obtain ⟨q', t', e1, e2, e3, e4, e5⟩ := ih den (q * den - num) (out ++ [q]) r hd (by omega) hgu h
        refine ⟨q, q' :: t', by rw [e1]; simp, ?_, hq1, hq2, ?_⟩
        · show (match frac (-1) (q' :: t') with
            | none => none
            | some (n, d) => if n = 0 then none else if n < 0 then some (-(q * n + -1 * d), -n) else some (q * n + -1 * d, n)) = _
          rw [e2]
          dsimp only
          rw [if_neg (by omega), if_neg (by omega)]
          congr 2
          omega
        · intro x hx
          rcases List.mem_cons.1 hx with rfl | hx
          · exact e4 (by omega)
          · exact e5 x hx
    · cases h
theorem gcd_dn {a b q r : Int} (h : Int.gcd a b = 1) (e : q * b + r = a) : Int.gcd b r = 1 := by
  have h1 : ((Int.gcd b r : Nat) : Int) ∣ b := Int.gcd_dvd_left ..
  have h2 : ((Int.gcd b r : Nat) : Int) ∣ r := Int.gcd_dvd_right ..
  have h3 : ((Int.gcd b r : Nat) : Int) ∣ a := by
    have := Int.dvd_add (Int.dvd_mul_of_dvd_right (b := q) h1) h2
    rwa [e] at this
  have h4 := Int.dvd_coe_gcd h3 h1
  rw [h] at h4
  have h5 : (Int.gcd b r) ∣ 1 := Int.ofNat_dvd.1 h4
  exact Nat.eq_one_of_dvd_one h5
theorem dn_tells : ∀ (f : Nat) (num den : Int) (out r : List Int), den ≤ num → 1 ≤ den → Int.gcd num den = 1 → tmF dnI f num den out = some r →
    ∃ q t, r = out ++ q :: t ∧ frac 1 (q :: t) = some (num, den) ∧ (∀ x ∈ q :: t, 1 ≤ x) ∧ ∀ y, (q :: t).getLast? = some y → den < num ∨ t ≠ [] → 2 ≤ y := by
  intro f
  induction f with
  | zero => intro num den out r _ _ _ h; simp [tmF] at h
  | succ f ih =>
    intro num den out r hn hd hg h
    unfold tmF at h
    rw [if_neg (by omega)] at h
    split at h
    · have h2 : den * (num / den) + num % den = num := Int.mul_ediv_add_emod num den
      have h3 := Int.emod_nonneg num (show den ≠ 0 by omega)
      have h4 := Int.emod_lt_of_pos num (show 0 < den by omega)
      unfold dnI at h
      dsimp only at h
      generalize num / den = q at *
      generalize num % den = s at *
      have h2' : q * den + s = num := by rw [Int.mul_comm]; exact h2
      have hgd := gcd_dn hg h2'
      have hq1 : 1 ≤ q := by
        rcases Int.lt_or_le q 1 with hlt | hge
        · have := Int.mul_le_mul_of_nonneg_right (show q ≤ 0 by omega) (show 0 ≤ den by omega)
          omega
        · exact hge
      by_cases hr : s = 0
      · subst hr
        have hd1 : den = 1 := by simp at hgd; omega
        cases f with
        | zero => simp [tmF] at h
        | succ f =>
          unfold tmF at h
          rw [if_pos rfl] at h
          injection h with h
          subst hd1
          have hqn : q = num := by omega
          refine ⟨q, [], h.symm, ?_, by simpa using hq1, ?_⟩
          · unfold frac
            rw [hqn]
          · intro y hy hc
            simp at hy hc
            omega
      · obtain ⟨q', t', e1, e2, e3, e4⟩ := ih den s (out ++ [q]) r (by omega) (by omega) hgd h
        refine ⟨q, q' :: t', by rw [e1]; simp, ?_, ?_, ?_⟩
        · show (match frac 1 (q' :: t') with
            | none => none
            | some (n, d) => if n = 0 then none else if n < 0 then some (-(q * n + 1 * d), -n) else some (q * n + 1 * d, n)) = _
          rw [e2]
          dsimp only
          rw [if_neg (by omega), if_neg (by omega)]
          congr 2
          omega
        · intro x hx
          rcases List.mem_cons.1 hx with rfl | hx
          · exact hq1
          · exact e3 x hx
        · intro y hy _
          exact e4 y (by simpa [List.getLast?_cons] using hy) (.inl h4)
    · cases h
end Go.Proofs.Ytfkkbjbgjmaciaa

/- CcG: What MinusTerms, PlusTerms, MinusOfPlus tell is told again by FractionOfMinus and FractionOfPlus. Plain mathematics. -/
namespace Go.Proofs.Ytfkkbjbgjmaciaa
open Go.RowKit

theorem tmF_good (rd : Int → Int → Int × Int) : ∀ (f : Nat) (num den : Int) (out r : List Int), good out = true → tmF rd f num den out = some r → good r = true := by
  intro f
  induction f with
  | zero => intro _ _ _ _ _ h; simp [tmF] at h
  | succ f ih =>
    intro num den out r ho h
    unfold tmF at h
    split at h
    · injection h with h; subst h; exact ho
    · split at h
      · rename_i hg
        exact ih _ _ _ _ hg h
      · cases h
theorem coB_gcd {a b : Int} (h : coB a b = true) : 1 ≤ a ∧ 1 ≤ b ∧ Int.gcd a b = 1 := by
  unfold coB at h
  simp only [Bool.and_eq_true, decide_eq_true_eq] at h
  obtain ⟨⟨⟨h1, _⟩, h2, _⟩, h3⟩ := h
  refine ⟨h1, h2, ?_⟩
  obtain ⟨m, rfl⟩ := Int.eq_ofNat_of_zero_le (show 0 ≤ a by omega)
  obtain ⟨n, rfl⟩ := Int.eq_ofNat_of_zero_le (show 0 ≤ b by omega)
  simpa using h3
theorem frR_some {s : Int} {l : List Int} {a b : Int} (h : frac s l = some (a, b)) : frR s l = (a, b, true) := by
  unfold frR
  rw [h]
/-- MinusTerms -/
theorem mtR_tells {a b : Int} {r : List Int} (h : mtR a b = some r) : good r = true ∧ fmR r = (a, b, true) ∧ ∃ q t, r = q :: t ∧ 1 ≤ q ∧ ∀ x ∈ t, 2 ≤ x := by
  unfold mtR at h
  split at h
  · rename_i hc
    obtain ⟨h1, h2, h3⟩ := coB_gcd hc
    have hg := tmF_good _ _ _ _ _ _ (by rfl) h
    obtain ⟨q, t, e1, e2, e3, _, e5⟩ := up_tells _ _ _ _ _ h1 h2 h3 h
    rw [List.nil_append] at e1
    subst e1
    exact ⟨hg, by rw [fmR_yes hg (by simp)]; exact frR_some e2, q, t, rfl, e3, e5⟩
  · cases h
/-- PlusTerms -/
theorem ptR_tells {a b : Int} {r : List Int} (h : ptR a b = some r) : posB r = true ∧ fpR r = (a, b, true) ∧ (1 < r.length → ∀ y, r.getLast? = some y → 2 ≤ y) := by
  unfold ptR at h
  split at h
  · rename_i hc
    obtain ⟨h1, h2, h3⟩ := coB_gcd hc.1
    have hg := tmF_good _ _ _ _ _ _ (by rfl) h
    obtain ⟨q, t, e1, e2, e3, e4⟩ := dn_tells _ _ _ _ _ hc.2 h2 h3 h
    rw [List.nil_append] at e1
    subst e1
    have hp : posB (q :: t) = true := posB_iff.2 ⟨hg, by simp, allB_iff.2 fun i hi => by
      have h30 := ((good_iff.1 hg).2 i hi).2
      refine ⟨?_, h30⟩
      rw [List.getD_eq_getElem?_getD, List.getElem?_eq_getElem hi]
      exact e3 _ (List.getElem_mem hi)⟩
    refine ⟨hp, by rw [fpR_yes hp]; exact frR_some e2, fun hl y hy => e4 y hy (.inr ?_)⟩
    rintro rfl
    simp at hl
  · cases h
/-- FractionOfPlus -/
theorem fpR_tells {l : List Int} (h : posB l = true) : fpR l = (ctv 1 l, ctv 1 (l.drop 1), true) := by
  have hp := posB_pos h
  obtain ⟨_, h0, _⟩ := posB_iff.1 h
  cases l with
  | nil => simp at h0
  | cons x r =>
    rw [fpR_yes h, frR_some (frac_plus r x hp)]
    rfl
theorem gcd_ct : ∀ (l : List Int) (x : Int), Int.gcd (ctv 1 (x :: l)) (ctv 1 l) = 1
  | [], x => by rw [ctv_nil]; simp
  | y :: r, x => by
    have ih := gcd_ct r y
    have e : ctv 1 (x :: y :: r) = x * ctv 1 (y :: r) + 1 * ctv 1 r := ctv_cons 1 x (y :: r)
    rw [e]
    generalize ctv 1 (y :: r) = b at *
    generalize ctv 1 r = c at *
    have h1 : ((Int.gcd (x * b + 1 * c) b : Nat) : Int) ∣ b := Int.gcd_dvd_right ..
    have h2 : ((Int.gcd (x * b + 1 * c) b : Nat) : Int) ∣ x * b + 1 * c := Int.gcd_dvd_left ..
    have h3 : ((Int.gcd (x * b + 1 * c) b : Nat) : Int) ∣ c := by
      have := Int.dvd_sub h2 (Int.dvd_mul_of_dvd_right (b := x) h1)
      rwa [show x * b + 1 * c - x * b = c by omega] at this
    have h4 := Int.dvd_coe_gcd h1 h3
    rw [ih] at h4
    exact Nat.eq_one_of_dvd_one (Int.ofNat_dvd.1 h4)
/-- MinusOfPlus -/
theorem mpR_tells {l r : List Int} (h : mpR l = some r) : posB l = true ∧ good r = true ∧ fmR r = (ctv 1 l, ctv 1 (l.drop 1), true) := by
  unfold mpR at h
  split at h
  · rename_i hp
    have hpos := posB_pos hp
    obtain ⟨_, h0, _⟩ := posB_iff.1 hp
    have hg := tmF_good _ _ _ _ _ _ (by rfl) h
    cases l with
    | nil => simp at h0
    | cons x t =>
      have h1 := (ctv_pos (x :: t) hpos).1
      have h2 := (ctv_pos t (fun z hz => hpos z (by simp [hz]))).1
      obtain ⟨q, u, e1, e2, _⟩ := up_tells _ _ _ _ _ h1 (by simpa using h2) (by simpa using gcd_ct t x) h
      rw [List.nil_append] at e1
      subst e1
      exact ⟨hp, hg, by rw [fmR_yes hg (by simp)]; exact frR_some e2⟩
  · cases h
end Go.Proofs.Ytfkkbjbgjmaciaa

/- DrE: The draws of chapter 3: a fraction's two numbers. -/
namespace Go.Proofs.Ytfkkbjbgjmaciaa
open Go.RowKit

/-- two numbers -/
def GivII (w : World) (e : Ending) (w' : World) : Prop := ∃ i j : Int, e = .returned (.tuple #[.int .i64 i, .int .i64 j]) ∧ (-1 ≤ i ∧ i ≤ 1000001) ∧ (0 ≤ j ∧ j ≤ 4611686018427387904) ∧ Below w.heap.size w w'
set_option maxRecDepth 100000 in
set_option maxHeartbeats 3200000 in
theorem spec_DrawMinusTerms (A : Option Addr) (n c B : Nat) (w : World) (h : CodeB w B A n) (hB : B ≤ w.heap.size) (hn : n ≤ 1048576) :
    Calls Try.prog 44 #[.slice A n c] w (GivII w) := by
  obtain ⟨w1, hw1⟩ : ∃ w1, w1 = w.alloc (.cells #[.slice A n c, .int .i64 0, .int .u64 0] 98) := ⟨_, rfl⟩
  have hc : Cur w1 w.heap.size 0 := hw1 ▸ cur_new h hB hn
  have hgl := hc.lt
  have HT := Lib.hid (spec_one w.heap.size 0 8 w1 hc (by omega) (by omega))
  have Hw1 := Lib.hid hw1
  clear h hc
  go_enter Try.func44, Try.ntmps44
  go_wp2_with fail
  rw [← hw1]
  clear hw1
  refine HT.out.mono ?_
  rintro e w2 ⟨b, rfl, hc2, hg2⟩
  have hz2 := hg2.size
  have Hg := Lib.hid hg2
  cases b
  · have HL := Lib.hid (spec_terms w.heap.size 2 1 5 w2 hc2 (by omega) (by omega) (by omega) (by omega))
    clear HT hc2 hg2
    go_wp2_with fail
    refine HL.out.mono ?_
    rintro e w3 ⟨A2, c2, l, rfl, hl, ho, hc3, hg3⟩
    have g3 := Hg.out.trans hg3
    have hz3 := hg3.size
    have HF := Lib.hid (spec_FractionOfPlus A2 c2 _ l w3 (SlI.of_own ho) (by omega))
    have Hg3 := Lib.hid g3
    have Hc3 := Lib.hid hc3
    clear HL Hg ho hc3 hg3 g3
    go_wp2_with fail
    refine HF.out.mono ?_
    obtain ⟨⟨p, q, ok⟩, hr⟩ : ∃ r, fpR l = r := ⟨_, rfl⟩
    rw [hr]
    rintro e w4 ⟨rfl, hb4⟩
    have hc4 := Hc3.out.kept hb4
    have g4 := grownC_below Hg3.out hb4
    have H73 : Hid (∀ w', w1.grownBy w' (some w.heap.size) → GivII w (.returned (.tuple #[.int .i64 7, .int .i64 3])) w') := Lib.hid fun w' hg => ⟨7, 3, rfl, by omega, by omega, giv_below Hw1.out hg⟩
    clear HF Hg3 Hc3 hb4 hr
    cases ok
    · have HR := Lib.hid (H73.out _ g4)
      clear hc4 g4 Hw1 H73
      go_wp2
      go_ret2
      exact HR.out
    · have HP := Lib.hid (spec_ctPair p q w4)
      have Hc4 := Lib.hid hc4
      have Hg4 := Lib.hid g4
      clear hc4 g4
      go_wp2_with fail
      refine HP.out.mono ?_
      rintro e w5 ⟨rfl, hb5⟩
      have hc5 := Hc4.out.kept hb5
      have g5 := grownC_below Hg4.out hb5
      obtain ⟨k, hk⟩ : ∃ k, coB p q = k := ⟨_, rfl⟩
      rw [hk]
      clear HP Hc4 Hg4 hb5
      cases k
      · have HR := Lib.hid (H73.out _ g5)
        clear hc5 g5 Hw1 H73 hk
        go_wp2
        go_ret2
        exact HR.out
      · have hb : (1 ≤ p ∧ p ≤ 1000000) ∧ (1 ≤ q ∧ q ≤ 1000000) := by
          unfold coB at hk
          simp only [Bool.and_eq_true, decide_eq_true_eq] at hk
          exact hk.1
        have HO := Lib.hid (spec_one w.heap.size 102 3 w5 hc5 (by omega) (by omega))
        have Hg5 := Lib.hid g5
        have Hb := Lib.hid hb
        clear hc5 g5 hb hk H73
        go_wp2_with fail
        refine HO.out.mono ?_
        rintro e w6 ⟨b, rfl, hc6, hg6⟩
        have g6 := Hg5.out.trans hg6
        cases b
        · have HR : Hid (GivII w (.returned (.tuple #[.int .i64 p, .int .i64 q])) w6) := Lib.hid ⟨p, q, rfl, by have := Hb.out; omega, by have := Hb.out; omega, giv_below Hw1.out g6⟩
          clear HO Hg5 Hb hc6 hg6 g6 Hw1
          go_wp2
          go_ret2
          exact HR.out
        · have HR : Hid (GivII w (.returned (.tuple #[.int .i64 q, .int .i64 p])) w6) := Lib.hid ⟨q, p, rfl, by have := Hb.out; omega, by have := Hb.out; omega, giv_below Hw1.out g6⟩
          clear HO Hg5 Hb hc6 hg6 g6 Hw1
          go_wp2
          go_ret2
          exact HR.out
  · have hba := (Below.refl w2.heap.size w2).alloc (Nat.le_refl _) (.cells #[.int .i64 0, .int .i64 1, .int .i64 1000000, .int .i64 1000001, .int .i64 (-1), .int .i64 6] 3)
    have HA := Lib.hid (spec_among w.heap.size 2 w2.heap.size 6 6 [0, 1, 1000000, 1000001, -1, 6] _ (hc2.kept hba) (by omega) rfl (by simp) (by omega) (fun j hj => by
      match j, hj with
      | 0, _ => simp [go_sem]
      | 1, _ => simp [go_sem]
      | 2, _ => simp [go_sem]
      | 3, _ => simp [go_sem]
      | 4, _ => simp [go_sem]
      | 5, _ => simp [go_sem]) (by omega) (by omega))
    have g3 := grownC_below hg2 hba
    have hzb := hba.size
    have Hg3 := Lib.hid g3
    clear HT Hg hc2 hg2 hba g3
    go_wp2_with fail
    refine HA.out.mono ?_
    rintro e w4 ⟨i, rfl, hi, hc4, hg4⟩
    have hi2 : -1 ≤ i ∧ i ≤ 1000001 := by simp at hi; omega
    have hz4 := hg4.size
    have g4 := Hg3.out.trans hg4
    have hba := (Below.refl w4.heap.size w4).alloc (Nat.le_refl _) (.cells #[.int .i64 0, .int .i64 1, .int .i64 999999, .int .i64 1000000, .int .i64 4, .int .i64 4611686018427387904] 3)
    have HA2 := Lib.hid (spec_among w.heap.size 4 w4.heap.size 6 6 [0, 1, 999999, 1000000, 4, 4611686018427387904] _ (hc4.kept hba) (by omega) rfl (by simp) (by omega) (fun j hj => by
      match j, hj with
      | 0, _ => simp [go_sem]
      | 1, _ => simp [go_sem]
      | 2, _ => simp [go_sem]
      | 3, _ => simp [go_sem]
      | 4, _ => simp [go_sem]
      | 5, _ => simp [go_sem]) (by omega) (by omega))
    have g5 := grownC_below g4 hba
    have Hg5 := Lib.hid g5
    have Hi := Lib.hid hi2
    clear HA Hg3 hi hc4 hg4 g4 hba g5 hi2
    go_wp2_with fail
    refine HA2.out.mono ?_
    rintro e w6 ⟨j, rfl, hj, hc6, hg6⟩
    have hj2 : 0 ≤ j ∧ j ≤ 4611686018427387904 := by simp at hj; omega
    have HR : Hid (GivII w (.returned (.tuple #[.int .i64 i, .int .i64 j])) w6) := Lib.hid ⟨i, j, rfl, Hi.out, hj2, giv_below Hw1.out (Hg5.out.trans hg6)⟩
    clear HA2 Hg5 Hi hj hj2 hc6 hg6 Hw1
    go_wp2
    go_ret2
    exact HR.out
end Go.Proofs.Ytfkkbjbgjmaciaa

/- LwB: The general laws' bound on their arguments. -/
namespace Go.Proofs.Ytfkkbjbgjmaciaa
open Go.RowKit

def BigEnd (n1 n2 : Nat) (w : World) (e : Ending) (w' : World) : Prop := ∃ b : Bool, e = .returned (.bool b) ∧ (b = false → n1 + n2 ≤ 1048576) ∧ w = w'
theorem laws_big (A1 A2 : Option Addr) (n1 c1 n2 c2 : Nat) (w : World) (h1 : n1 ≤ maxLen) (h2 : n2 ≤ maxLen) :
    Calls Try.prog 7 #[.slice A1 n1 c1, .slice A2 n2 c2] w (BigEnd n1 n2 w) := by
  have HE : Hid (∀ b, (b = false → n1 + n2 ≤ 1048576) → BigEnd n1 n2 w (.returned (.bool b)) w) := Lib.hid fun b h => ⟨b, rfl, h, rfl⟩
  have m1 : (n1 : Int) ≤ (maxLen : Int) := by omega
  have m2 : (n2 : Int) ≤ (maxLen : Int) := by omega
  unfold maxLen at m1 m2
  by_cases h : 1048576 < n1
  · have i1 : (1048576 : Int) < (n1 : Int) := by omega
    clear h1 h2
    go_enter Try.func7, Try.ntmps7
    go_wp2
    go_ret
    exact HE.out _ (fun h => by cases h)
  · have i1 : ¬ (1048576 : Int) < (n1 : Int) := by omega
    have hw : IntKind.i64.wrap (1048576 - (n1 : Int)) = 1048576 - (n1 : Int) := IntWalk.i64_in _ (by omega)
    clear h1 h2
    go_enter Try.func7, Try.ntmps7
    go_wp2
    go_ret
    exact HE.out _ (fun h => by simp at h; omega)
end Go.Proofs.Ytfkkbjbgjmaciaa

/- LwS: The general laws' comparison of lists: of two that are the same. -/
namespace Go.Proofs.Ytfkkbjbgjmaciaa
open Go.RowKit

theorem below_drewN {B : Nat} {w w' : World} (h : Below B w w') : ∀ k, Below B w (w'.drewN k)
  | 0 => h
  | k + 1 => (below_drewN h k).drew
set_option maxHeartbeats 1600000 in
theorem laws_dSame (A1 A2 : Option Addr) (n c1 c2 B1 B2 : Nat) (l : List Int) (w : World) (hn : l.length = n) (h1 : SlI w B1 A1 l) (h2 : SlI w B2 A2 l) (hl : n ≤ 1000000) :
    Calls Try.prog 19 #[.slice A1 n c1, .slice A2 n c2] w fun e w' => e = .returned (.bool true) ∧ Below w.heap.size w w' := by
  subst hn
  have H1 := Lib.hid h1
  have H2 := Lib.hid h2
  have hll : (l.length : Int) ≤ 1000000 := by omega
  have hb0 := Below.refl w.heap.size w
  clear h1 h2
  go_enter Try.func19, Try.ntmps19
  go_wp2
  go_loopw [5, 13] (fun _ i wr => ∃ k : Nat, k ≤ l.length ∧ i = .int .i64 k ∧ SlI wr B1 A1 l ∧ SlI wr B2 A2 l ∧ Below w.heap.size w wr) (fun _ i _ => l.length - (intOf i).toNat)
  case atStart => exact ⟨0, Nat.zero_le _, rfl, H1.out, H2.out, hb0⟩
  case round =>
    clear H1 H2 hb0
    obtain ⟨k, hk, rfl, h1, h2, hb⟩ := hrel
    by_cases hlt : k < l.length
    · have HE := Lib.hid (And.intro h1 (And.intro h2 hb))
      obtain ⟨b1, o1, rfl, _, q1⟩ := h1 (by omega)
      obtain ⟨b2, o2, rfl, _, q2⟩ := h2 (by omega)
      have g1 := q1 k hlt
      have g2 := q2 k hlt
      have i0 : (0 : Int) ≤ (k : Int) := by omega
      have i1 : (k : Int) < (l.length : Int) := by omega
      generalize l.getD k 0 = x at *
      clear q1 q2 h1 h2 hb
      go_wp2
      go_quiet (fail)
      rename Nat => m2
      go_wp2
      go_roundw
      case rel => exact ⟨k + 1, by omega, by go_num, HE.out.1.drewN _, HE.out.2.1.drewN _, below_drewN HE.out.2.2 _⟩
      case measure => simp [intOf]; omega
    · obtain rfl : k = l.length := by omega
      have i1 : ¬ (l.length : Int) < (l.length : Int) := by omega
      clear h1 h2
      go_wp2
      go_ret
      exact ⟨rfl, hb⟩
end Go.Proofs.Ytfkkbjbgjmaciaa

/- LwT: The general laws' comparison of lists of lists: of two that are the same. -/
namespace Go.Proofs.Ytfkkbjbgjmaciaa
open Go.RowKit

theorem laws_dSame_q (A A' : Option Addr) (n c c' B B' : Nat) (l : List Int) (w : World) (hn : l.length = n) (h : SlI w B A l) (h' : SlI w B' A' l) (hl : n ≤ 1000000000) :
    Calls Try.prog 19 #[.slice A n c, .slice A' n c'] w fun e w' => e = .returned (.bool true) ∧ ∃ z, w' = w.drewN z := by
  subst hn
  go_enter Try.func19, Try.ntmps19
  go_wp2
  go_loopw [5, 13] (fun _ i wr => ∃ k z : Nat, k ≤ l.length ∧ i = .int .i64 k ∧ wr = w.drewN z) (fun _ i _ => l.length - (intOf i).toNat)
  case atStart => exact ⟨0, 0, Nat.zero_le _, rfl, rfl⟩
  case round =>
    obtain ⟨k, z, hk, rfl, rfl⟩ := hrel
    by_cases hlt : k < l.length
    · obtain ⟨b, off, rfl, hbB, hc⟩ := h (by omega)
      obtain ⟨b', off', rfl, hbB', hc'⟩ := h' (by omega)
      have g := hc k hlt
      have g' := hc' k hlt
      have i0 : (0 : Int) ≤ (k : Int) := by omega
      have i1 : (k : Int) < (l.length : Int) := by omega
      clear hc hc' h h'
      go_wp2
      go_quiet (fail)
      go_wp2
      go_roundw
      case rel => exact ⟨k + 1, _, by omega, by go_num, rfl⟩
      case measure => simp [intOf]; omega
    · have i1 : ¬ (k : Int) < (l.length : Int) := by omega
      go_wp2
      go_ret
      exact ⟨rfl, z, rfl⟩
set_option maxHeartbeats 1600000 in
theorem laws_dLists (A A' : Option Addr) (n c c' B B' : Nat) (Ls : List (List Int)) (w : World) (hn : Ls.length = n) (h : SlSS w B A Ls) (h' : SlSS w B' A' Ls) (hl : n ≤ 1000000) (hr : ∀ j, j < n → (rowOf Ls j).length ≤ 1000000) :
    Calls Try.prog 20 #[.slice A n c, .slice A' n c'] w fun e w' => e = .returned (.bool true) ∧ ∃ z, w' = w.drewN z := by
  have Hn := Lib.hid hn
  have H := Lib.hid h
  have H' := Lib.hid h'
  have Hr := Lib.hid hr
  clear hn h h' hr
  go_enter Try.func20, Try.ntmps20
  go_wp2
  go_loopw [5, 13] (fun _ i wr => ∃ k z : Nat, k ≤ n ∧ i = .int .i64 k ∧ wr = w.drewN z) (fun _ i _ => n - (intOf i).toNat)
  case atStart => exact ⟨0, 0, Nat.zero_le _, rfl, rfl⟩
  case round =>
    obtain ⟨k, z, hk, rfl, hw⟩ := hrel
    have Hw := Lib.hid hw
    by_cases hlt : k < n
    · obtain ⟨b, off, rfl, hbB, hc⟩ := (show SlSS wr B A Ls by rw [hw]; exact H.out.drewN z) (by rw [Hn.out]; omega)
      obtain ⟨b', off', rfl, hbB', hc'⟩ := (show SlSS wr B' A' Ls by rw [hw]; exact H'.out.drewN z) (by rw [Hn.out]; omega)
      obtain ⟨Aj, cj, g, hs⟩ := hc k (by rw [Hn.out]; exact hlt)
      obtain ⟨Aj', cj', g', hs'⟩ := hc' k (by rw [Hn.out]; exact hlt)
      have i0 : (0 : Int) ≤ (k : Int) := by omega
      have i1 : (k : Int) < (n : Int) := by omega
      have hrk := Hr.out k hlt
      have Heq := Lib.hid fun m => laws_dSame_q Aj Aj' _ cj cj' B B' (rowOf Ls k) (wr.drewN m) rfl (hs.drewN m) (hs'.drewN m) (by omega)
      clear hc hc' hs hs' H H' hw
      generalize (rowOf Ls k).length = m at *
      go_wp2
      go_quiet ((go_at_call 19; with_reducible exact Calls.quiet_of (Heq.out _)))
      go_wp2
      go_roundw
      case rel => exact ⟨k + 1, _, by omega, by go_num, by rw [Hw.out, World.drewN_drewN]⟩
      case measure => simp [intOf]; omega
    · have i1 : ¬ (k : Int) < (n : Int) := by omega
      clear hw
      go_wp2
      go_ret
      exact ⟨rfl, z, Hw.out⟩
end Go.Proofs.Ytfkkbjbgjmaciaa

/- TcM: What the walk of the law of changed terms asks of the plain functions. -/
namespace Go.Proofs.Ytfkkbjbgjmaciaa
open Go.RowKit

theorem optL_some {R : Option (List Int)} {L : List Int} (h1 : optL R = L) (h2 : R.isSome = true) : R = some L := by
  cases R with
  | none => cases h2
  | some r => rw [← h1]; rfl
theorem tmR_some {R : Option (List Int)} {L : List Int} (h1 : tmR R = L) (h2 : R.isSome = true) : R = some L := by
  cases R with
  | none => cases h2
  | some r => rw [← h1]; rfl
theorem rdG_good : ∀ (f : Nat) (l r : List Int), good l = true → rdG f l = some r → good r = true := by
  intro f
  induction f with
  | zero => intro l r _ h; simp [rdG] at h
  | succ f ih =>
    intro l r hl h
    unfold rdG at h
    split at h
    · injection h with h; subst h; exact hl
    · split at h
      · rename_i hg
        exact ih _ _ hg h
      · cases h
/-- a one put in: what the law asks -/
theorem put_all {l P : List Int} {i : Int} (h : poR l i = some P) : good l = true ∧ good P = true ∧ toR P i = some l ∧ ctv (-1) P = ctv (-1) l ∧ ∃ k : Nat, i = (k : Int) ∧ k < P.length ∧ P.getD k 0 = 1 := by
  obtain ⟨h1, h2, h3⟩ := put_back h
  obtain ⟨k, rfl, k1, k2, hg, hg2, rfl⟩ := poR_some h
  rw [Int.toNat_natCast] at h3
  exact ⟨hg, hg2, h1, h2, k, rfl, by rw [putL_length l k (by omega)]; omega, h3⟩
theorem red_all {l P : List Int} (h : roR l = some P) : good l = true ∧ good P = true ∧ ctv (-1) P = ctv (-1) l ∧ P.length ≤ l.length ∧ ∀ i, 1 ≤ i → i + 1 < P.length → P.getD i 0 ≠ 1 := by
  obtain ⟨h1, h2⟩ := roR_tells h
  refine ⟨h1, ?_, h2⟩
  rw [roR_yes h1] at h
  exact rdG_good _ _ _ h1 h
theorem poR_len (l : List Int) (k : Int) : (optL (poR l k)).length ≤ 10 := by
  unfold optL poR
  split
  · rename_i hc
    exact (good_iff.1 hc.2.2).1
  · simp
theorem toR_len (l : List Int) (k : Int) : (optL (toR l k)).length ≤ 10 := by
  unfold optL toR
  split
  · rename_i hc
    exact (good_iff.1 hc.2.2.2).1
  · simp
theorem roR_len (l : List Int) : (optL (roR l)).length ≤ 10 := by
  cases h : roR l with
  | none => simp [optL]
  | some P => exact (good_iff.1 (red_all h).2.1).1
theorem impl_ctg (A : Option Addr) (c B : Nat) (l : List Int) (x : Int) (w : World) (h : SlI w B A l) (hg : good l = true) (hx : ctv (-1) l = x) (hlc : l.length ≤ c) :
    Calls Try.prog 11 #[.slice A l.length c] w fun e w' => e = .returned (.tuple #[.int .i64 x, .bool true]) ∧ Below w.heap.size w w' := by
  refine (impl_ContinuantOf A c B l w h (by have := (good_iff.1 hg).1; omega) hlc).mono ?_
  intro e w' he
  unfold CtEnd ctR at he
  rw [hg, hx] at he
  exact he
theorem impl_take_yes (A : Option Addr) (c B : Nat) (l r : List Int) (i : Int) (w : World) (h : SlI w B A l) (hB : B ≤ w.heap.size) (hl : l.length ≤ 1048576) (hlc : l.length ≤ c) (hr : toR l i = some r) :
    Calls Try.prog 38 #[.slice A l.length c, .int .i64 i] w (RetI w r true) := by
  have h := impl_TakeOne A l.length c B l i w rfl h hB hl hlc
  rw [hr] at h
  exact h
theorem mtR_len (a b : Int) : (tmR (mtR a b)).length ≤ 10 := by
  cases h : mtR a b with
  | none => simp [tmR]
  | some r => exact (good_iff.1 (mtR_tells h).1).1
theorem ptR_len (a b : Int) : (tmR (ptR a b)).length ≤ 10 := by
  cases h : ptR a b with
  | none => simp [tmR]
  | some r => exact (good_iff.1 (posB_iff.1 (ptR_tells h).1).1).1
theorem mpR_len (l : List Int) : (tmR (mpR l)).length ≤ 10 := by
  cases h : mpR l with
  | none => simp [tmR]
  | some r => exact (good_iff.1 (mpR_tells h).2.1).1
theorem impl_pcg (A : Option Addr) (c B n : Nat) (l : List Int) (x : Int) (w : World) (hn : l.length = n) (h : SlI w B A l) (hg : good l = true) (hx : ctv 1 l = x) (hlc : n ≤ c) :
    Calls Try.prog 13 #[.slice A n c] w fun e w' => e = .returned (.tuple #[.int .i64 x, .bool true]) ∧ Below w.heap.size w w' := by
  subst hn
  refine (impl_PlusContinuantOf A c B l w h (by have := (good_iff.1 hg).1; omega) hlc).mono ?_
  intro e w' he
  unfold CtEnd ctR at he
  rw [hg, hx] at he
  exact he
theorem impl_fpl (A : Option Addr) (c B : Nat) (l : List Int) (X Y : Int) (N : Bool) (w : World) (h : SlI w B A l) (hl : l.length ≤ 1048576) (hlc : l.length ≤ c) (hF : fpR l = (X, Y, N)) :
    Calls Try.prog 50 #[.slice A l.length c] w fun e w' => e = .returned (.tuple #[.int .i64 X, .int .i64 Y, .bool N]) ∧ Below w.heap.size w w' := by
  refine (impl_FractionOfPlus A c B l w h hl hlc).mono ?_
  intro e w' he
  rw [hF] at he
  exact he
theorem spec_fpl (A : Option Addr) (c B : Nat) (l : List Int) (X Y : Int) (N : Bool) (w : World) (h : SlI w B A l) (hl : l.length ≤ 1048576) (hF : fpR l = (X, Y, N)) :
    Calls Try.prog 51 #[.slice A l.length c] w fun e w' => e = .returned (.tuple #[.int .i64 X, .int .i64 Y, .bool N]) ∧ Below w.heap.size w w' := by
  refine (spec_FractionOfPlus A c B l w h hl).mono ?_
  intro e w' he
  rw [hF] at he
  exact he
theorem impl_fml (A : Option Addr) (c B : Nat) (l : List Int) (X Y : Int) (N : Bool) (w : World) (h : SlI w B A l) (hB : B ≤ w.heap.size) (hl : l.length ≤ 1048576) (hlc : l.length ≤ c) (hF : fmR l = (X, Y, N)) :
    Calls Try.prog 17 #[.slice A l.length c] w fun e w' => e = .returned (.tuple #[.int .i64 X, .int .i64 Y, .bool N]) ∧ Below w.heap.size w w' := by
  refine (impl_FractionOfMinus A c B l w h hB hl hlc).mono ?_
  intro e w' he
  rw [hF] at he
  exact he
theorem posB_good {l : List Int} (h : posB l = true) : good l = true ∧ 0 < l.length := ⟨(posB_iff.1 h).1, (posB_iff.1 h).2.1⟩
theorem good_drop1 {l : List Int} (h : good l = true) : good (l.drop 1) = true := by
  obtain ⟨h1, h2⟩ := good_iff.1 h
  refine good_iff.2 ⟨by simp; omega, fun i hi => ?_⟩
  have := h2 (i + 1) (by simp at hi; omega)
  simpa [List.getD_eq_getElem?_getD, Nat.add_comm] using this
theorem fp_of {l : List Int} {X Y : Int} {N : Bool} (h : fpR l = (X, Y, N)) (hN : N = true) : good l = true ∧ 0 < l.length ∧ ctv 1 l = X ∧ good (l.drop 1) = true ∧ ctv 1 (l.drop 1) = Y := by
  subst hN
  cases hp : posB l with
  | false => rw [fpR_no hp] at h; cases h
  | true =>
    rw [fpR_tells hp] at h
    injection h with h1 h2
    injection h2 with h2 h3
    exact ⟨(posB_good hp).1, (posB_good hp).2, h1, good_drop1 (posB_good hp).1, h2⟩
theorem mp_fp {l r : List Int} {X Y : Int} {N : Bool} (h : mpR l = some r) (hF : fpR l = (X, Y, N)) : N = true ∧ good r = true ∧ fmR r = (X, Y, true) := by
  obtain ⟨h1, h2, h3⟩ := mpR_tells h
  rw [fpR_tells h1] at hF
  injection hF with f1 f2
  injection f2 with f2 f3
  subst f1 f2 f3
  exact ⟨rfl, h2, h3⟩
theorem mt_of {a b : Int} {r : List Int} (h : mtR a b = some r) : good r = true ∧ fmR r = (a, b, true) ∧ 0 < r.length ∧ 1 ≤ r.getD 0 0 ∧ ∀ k, k + 1 < r.length → 2 ≤ r.getD (k + 1) 0 := by
  obtain ⟨h1, h2, q, t, rfl, hq, ht⟩ := mtR_tells h
  refine ⟨h1, h2, by simp, by simpa using hq, fun k hk => ?_⟩
  have hk' : k < t.length := by simpa using hk
  have := ht t[k] (List.getElem_mem hk')
  simpa [List.getD_eq_getElem?_getD, List.getElem?_eq_getElem hk'] using this
theorem pt_of {a b : Int} {r : List Int} (h : ptR a b = some r) : fpR r = (a, b, true) ∧ r.length ≤ 10 ∧ 0 < r.length ∧ (1 < r.length → 2 ≤ r.getD (r.length - 1) 0) := by
  obtain ⟨h1, h2, h3⟩ := ptR_tells h
  refine ⟨h2, (good_iff.1 (posB_good h1).1).1, (posB_good h1).2, fun hl => ?_⟩
  refine h3 hl _ ?_
  have hlt : r.length - 1 < r.length := by omega
  rw [List.getLast?_eq_getElem?, List.getD_eq_getElem?_getD, List.getElem?_eq_getElem hlt]
  rfl
end Go.Proofs.Ytfkkbjbgjmaciaa
