/- IsSolution: the model's and the program's contracts, and the law's walk. -/
import Derived.Test.YtnoddecligmjbaaPzB
import Derived.Test.YtnoddecligmjbaaIsQuiddityW
import Derived.Test.YtnoddecligmjbaaIsSolutionC
namespace Go.Proofs.Ytnoddecligmjbaa
set_option linter.unusedVariables false
open Go.RowKit

/-- do the first k numbers of q fit p? -/
def fitK (p q : List Int) (k : Nat) : Bool := (List.range k).all fun i => p.getD i 0 == 0 || p.getD i 0 == q.getD i 0
theorem fitK_zero (p q : List Int) : fitK p q 0 = true := rfl
theorem fitK_succ (p q : List Int) (k : Nat) : fitK p q (k + 1) = (fitK p q k && (p.getD k 0 == 0 || p.getD k 0 == q.getD k 0)) := by
  unfold fitK
  rw [List.range_succ, List.all_append]
  simp
theorem fitK_bad (p q : List Int) (k n : Nat) (h : k < n) (h0 : p.getD k 0 ≠ 0) (h1 : p.getD k 0 ≠ q.getD k 0) : fitK p q n = false := by
  unfold fitK
  rw [Bool.eq_false_iff]
  intro e
  have := List.all_eq_true.1 e k (by simpa using h)
  simp [h0, h1] at this
  simp at h0 h1
  rcases this with e | e
  · exact h0 e
  · exact h1 e
theorem fitK_next (p q : List Int) (k : Nat) (hf : fitK p q k = true) (h : p.getD k 0 = 0 ∨ p.getD k 0 = q.getD k 0) : fitK p q (k + 1) = true := by
  rw [fitK_succ, hf]
  rcases h with h | h
  · rw [h]; rfl
  · rw [h]; simp

set_option maxRecDepth 100000 in
set_option maxHeartbeats 3200000 in
theorem impl_fits (A A' : Option Addr) (c c' B B' : Nat) (p q : List Int) (w : World) (h : SlI w B A p) (h' : SlI w B' A' q) (hl : q.length ≤ p.length) (hl9 : p.length ≤ 9) :
    Calls Try.prog 103 #[.slice A p.length c, .slice A' q.length c'] w fun e w' => e = .returned (.bool (fitK p q q.length)) ∧ w = w' := by
  go_enter Try.func103, Try.ntmps103
  go_wp2
  go_loop [5, 6, 9] (fun _ _ i => ∃ k : Nat, k ≤ q.length ∧ i = .int .i64 k ∧ fitK p q k = true) (fun _ _ i => q.length - (intOf i).toNat)
  case atStart => exact ⟨0, Nat.zero_le _, rfl, rfl⟩
  case round =>
    obtain ⟨k, hk, rfl, hno⟩ := hrel
    by_cases hlt : k < q.length
    · obtain ⟨b, off, rfl, hbB, hc⟩ := h (by omega)
      obtain ⟨b', off', rfl, hbB', hc'⟩ := h' (by omega)
      have g := hc k (by omega)
      have g' := hc' k hlt
      have i0 : (0 : Int) ≤ (k : Int) := by omega
      have i1 : (k : Int) < (p.length : Int) := by omega
      have i2 : (k : Int) < (q.length : Int) := by omega
      have hnext := fitK_next p q k hno
      have hbad := fitK_bad p q k q.length hlt
      clear hc hc' h h' hno
      generalize p.getD k 0 = x at *
      generalize q.getD k 0 = y at *
      have Hnext := Lib.hid hnext
      have Hbad := Lib.hid hbad
      clear hnext hbad
      by_cases hx : x = 0
      · subst hx
        go_wp2
        go_round
        case rel => exact ⟨k + 1, by omega, by go_num, Hnext.out (.inl rfl)⟩
        case measure => simp [intOf]; omega
      · have hx' : (x != 0) = true := by simpa using hx
        by_cases hy : x = y
        · subst hy
          have Hx := Lib.hid (Hnext.out (.inr rfl))
          clear Hnext Hbad hx
          go_wp2
          go_round
          case rel => exact ⟨k + 1, by omega, by go_num, Hx.out⟩
          case measure => simp [intOf]; omega
        · have hy' : (x != y) = true := by simpa using hy
          have Hf := Lib.hid (Hbad.out hx hy)
          clear hx hy Hbad Hnext
          go_wp2
          go_ret
          exact ⟨ret_bool Hf.out.symm, rfl⟩
    · obtain rfl : k = q.length := by omega
      have Hno := Lib.hid hno
      clear hno h h'
      go_wp2
      go_ret
      exact ⟨ret_bool Hno.out.symm, rfl⟩

set_option maxRecDepth 100000 in
set_option maxHeartbeats 3200000 in
theorem spec_pzFits (A A' : Option Addr) (c c' B B' : Nat) (p q : List Int) (w : World) (h : SlI w B A p) (hB : B ≤ w.heap.size) (h' : SlI w B' A' q) (hB' : B' ≤ w.heap.size) (hl9 : p.length ≤ 9) (hlq : q.length ≤ 1048576) :
    Calls Try.prog 102 #[.agg #[.slice A p.length c], .slice A' q.length c'] w fun e w' => e = .returned (.bool (decide (q.length = p.length) && fitK p q q.length)) ∧ Below w.heap.size w w' := by
  obtain ⟨n, hn⟩ : ∃ n, p.length = n := ⟨_, rfl⟩
  obtain ⟨m, hm⟩ : ∃ m, q.length = m := ⟨_, rfl⟩
  have hd := below_box (Below.refl w.heap.size w) (Nat.le_refl _) (.cells #[.slice A n c] 27)
  have hs := h.below (hd.mono hB)
  have hs' := h'.below (hd.mono hB')
  have Hd := Lib.hid hd
  have Hn := Lib.hid hn
  have Hm := Lib.hid hm
  rw [hn, hm]
  rw [hn] at hl9
  rw [hm] at hlq
  clear h h' hd hn hm
  by_cases he : m = n
  · subst he
    have m0 : (m : Int) ≤ 9 := by omega
    go_enter Try.func102, Try.ntmps102
    go_wp2
    go_loop [5, 6, 16] (fun _ _ i => ∃ k : Nat, k ≤ m ∧ i = .int .i64 k ∧ fitK p q k = true) (fun _ _ i => m - (intOf i).toNat)
    case atStart => exact ⟨0, Nat.zero_le _, rfl, rfl⟩
    case round =>
      obtain ⟨k, hk, rfl, hno⟩ := hrel
      by_cases hlt : k < m
      · obtain ⟨b, off, rfl, hbB, hc⟩ := hs (by rw [Hn.out]; omega)
        obtain ⟨b', off', rfl, hbB', hc'⟩ := hs' (by rw [Hm.out]; omega)
        have g := hc k (by rw [Hn.out]; omega)
        have g' := hc' k (by rw [Hm.out]; omega)
        have i0 : (0 : Int) ≤ (k : Int) := by omega
        have i1 : (k : Int) < (m : Int) := by omega
        have hnext := fitK_next p q k hno
        have hbad := fitK_bad p q k m hlt
        clear hc hc' hs hs' hno
        generalize p.getD k 0 = x at *
        generalize q.getD k 0 = y at *
        have Hnext := Lib.hid hnext
        have Hbad := Lib.hid hbad
        clear hnext hbad
        by_cases hx : x = 0
        · subst hx
          go_wp2
          go_round
          case rel => exact ⟨k + 1, by omega, by go_num, Hnext.out (.inl rfl)⟩
          case measure => simp [intOf]; omega
        · have hx' : (x != 0) = true := by simpa using hx
          by_cases hy : x = y
          · subst hy
            have Hx := Lib.hid (Hnext.out (.inr rfl))
            clear Hnext Hbad hx
            go_wp2
            go_round
            case rel => exact ⟨k + 1, by omega, by go_num, Hx.out⟩
            case measure => simp [intOf]; omega
          · have hy' : (x != y) = true := by simpa using hy
            have Hf := Lib.hid (Hbad.out hx hy)
            clear hx hy Hbad Hnext
            go_wp2
            go_ret
            exact ⟨ret_bool (by rw [Hf.out]; first | done | simp), Hd.out⟩
      · obtain rfl : k = m := by omega
        have Hno := Lib.hid hno
        clear hno hs hs'
        go_wp2
        go_ret
        exact ⟨ret_bool (by rw [Hno.out]; first | done | simp), Hd.out⟩
  · have he' : ((m : Int) != (n : Int)) = true := by simp; omega
    have HE : Hid (decide (m = n) = false) := Lib.hid (by simpa using he)
    clear hs hs' he
    go_enter Try.func102, Try.ntmps102
    go_wp2
    go_ret
    exact ⟨ret_bool (by rw [HE.out]; rfl), Hd.out⟩

def solOk (p q : List Int) : Bool := pzB p && isQ q
def solR (p q : List Int) : Bool := solOk p q && (decide (q.length = p.length) && fitK p q q.length)
def SolE (p q : List Int) (w : World) (e : Ending) (w' : World) : Prop := e = .returned (.tuple #[.bool (solR p q), .bool (solOk p q)]) ∧ Below w.heap.size w w'
theorem solE_no {p q : List Int} {w w' : World} (h : solOk p q = false) (hb : Below w.heap.size w w') : SolE p q w (.returned (.tuple #[.bool false, .bool false])) w' := by
  unfold SolE solR
  rw [h]
  exact ⟨rfl, hb⟩
theorem solE_yes {p q : List Int} {w w' : World} {b : Bool} (h : solOk p q = true) (hq : (decide (q.length = p.length) && fitK p q q.length) = b) (hb : Below w.heap.size w w') : SolE p q w (.returned (.tuple #[.bool b, .bool true])) w' := by
  unfold SolE solR
  rw [h, hq]
  exact ⟨rfl, hb⟩

set_option maxRecDepth 100000 in
set_option maxHeartbeats 3200000 in
theorem spec_IsSolution (A A' : Option Addr) (c c' B B' : Nat) (p q : List Int) (w : World) (h : SlI w B A p) (hB : B ≤ w.heap.size) (hl : p.length ≤ 1048576) (h' : SlI w B' A' q) (hB' : B' ≤ w.heap.size) (hlq : q.length ≤ 1048576) (hlc : q.length ≤ c') :
    Calls Try.prog 22 #[.agg #[.slice A p.length c], .slice A' q.length c'] w (SolE p q w) := by
  have hd := below_box (Below.refl w.heap.size w) (Nat.le_refl _) (.cells #[.slice A p.length c] 27)
  have Q := Lib.hid (Bo.new w (.slice A p.length c) 27)
  have hs := h.below (hd.mono hB)
  have hs' := h'.below (hd.mono hB')
  clear h h'
  go_enter Try.func22, Try.ntmps22
  go_wp2_with fail
  refine (spec_pzGood A _ c B p _ rfl hs (Nat.le_trans hB hd.size) hl).mono ?_
  rintro e w1 ⟨rfl, hb⟩
  replace Q := Lib.hid (Q.out.kept hb)
  replace hs := hs.below (hb.mono (Nat.le_trans hB hd.size))
  replace hs' := hs'.below (hb.mono (Nat.le_trans hB' hd.size))
  replace hd := below_kept hd (Nat.le_refl _) hb
  clear hb
  cases hp : pzB p
  · have HE := Lib.hid (solE_no (p := p) (q := q) (by unfold solOk; rw [hp]; rfl) hd)
    clear hp hd hs hs' Q
    go_wp2
    go_ret2
    exact HE.out
  · obtain ⟨n3, n9⟩ := pzB_len hp
    go_wp2_with fail
    refine (spec_IsQuiddity A' c' B' q _ hs' (Nat.le_trans hB' hd.size) hlq hlc).mono ?_
    rintro e w2 ⟨rfl, hb⟩
    replace Q := Lib.hid (Q.out.kept hb)
    replace hs := hs.below (hb.mono (Nat.le_trans hB hd.size))
    replace hs' := hs'.below (hb.mono (Nat.le_trans hB' hd.size))
    replace hd := below_kept hd (Nat.le_refl _) hb
    clear hb
    cases hq : isQ q
    · have HE := Lib.hid (solE_no (p := p) (q := q) (by unfold solOk; rw [hp, hq]; rfl) hd)
      clear hp hq hd hs hs' Q
      go_wp2
      go_ret2
      exact HE.out
    · have Hok : Hid (solOk p q = true) := Lib.hid (by unfold solOk; rw [hp, hq]; rfl)
      have cq := Q.out.cell
      have yq := Q.out.lt
      clear hp hq
      go_wp2_with fail
      refine (spec_pzFits A A' c c' B B' p q _ hs (Nat.le_trans hB hd.size) hs' (Nat.le_trans hB' hd.size) n9 hlq).mono ?_
      rintro e w3 ⟨rfl, hb⟩
      have HE := Lib.hid (solE_yes Hok.out rfl (below_kept hd (Nat.le_refl _) hb))
      clear hb hd hs hs' Q cq yq Hok
      go_wp2
      go_ret2
      exact HE.out

set_option maxRecDepth 100000 in
set_option maxHeartbeats 3200000 in
theorem impl_IsSolution (A A' : Option Addr) (c c' B B' : Nat) (p q : List Int) (w : World) (h : SlI w B A p) (hB : B ≤ w.heap.size) (hl : p.length ≤ 1048576) (h' : SlI w B' A' q) (hB' : B' ≤ w.heap.size) (hlq : q.length ≤ 1048576) (hlc : q.length ≤ c') :
    Calls Try.prog 24 #[.agg #[.slice A p.length c], .slice A' q.length c'] w (SolE p q w) := by
  have hd := below_box (Below.refl w.heap.size w) (Nat.le_refl _) (.cells #[.slice A p.length c] 27)
  have Q := Lib.hid (Bo.new w (.slice A p.length c) 27)
  have hs := h.below (hd.mono hB)
  have hs' := h'.below (hd.mono hB')
  clear h h'
  go_enter Try.func24, Try.ntmps24
  go_wp2_with fail
  refine (impl_IsPuzzle A _ c B p _ rfl hs (Nat.le_trans hB hd.size) hl).mono ?_
  rintro e w1 ⟨rfl, hb⟩
  replace Q := Lib.hid (Q.out.kept hb)
  replace hs := hs.below (hb.mono (Nat.le_trans hB hd.size))
  replace hs' := hs'.below (hb.mono (Nat.le_trans hB' hd.size))
  replace hd := below_kept hd (Nat.le_refl _) hb
  clear hb
  cases hp : pzB p
  · have HE := Lib.hid (solE_no (p := p) (q := q) (by unfold solOk; rw [hp]; rfl) hd)
    clear hp hd hs hs' Q
    go_wp2
    go_ret2
    exact HE.out
  · obtain ⟨n3, n9⟩ := pzB_len hp
    go_wp2_with fail
    refine (impl_IsQuiddity A' c' B' q _ hs' (Nat.le_trans hB' hd.size) hlq hlc).mono ?_
    rintro e w2 ⟨rfl, hb⟩
    replace Q := Lib.hid (Q.out.kept hb)
    replace hs := hs.below (hb.mono (Nat.le_trans hB hd.size))
    replace hs' := hs'.below (hb.mono (Nat.le_trans hB' hd.size))
    replace hd := below_kept hd (Nat.le_refl _) hb
    clear hb
    cases hq : isQ q
    · have HE := Lib.hid (solE_no (p := p) (q := q) (by unfold solOk; rw [hp, hq]; rfl) hd)
      clear hp hq hd hs hs' Q
      go_wp2
      go_ret2
      exact HE.out
    · have Hok : Hid (solOk p q = true) := Lib.hid (by unfold solOk; rw [hp, hq]; rfl)
      have cq := Q.out.cell
      have yq := Q.out.lt
      clear hp hq
      by_cases he : q.length = p.length
      · have HF := Lib.hid (impl_fits A A' c c' B B' p q w2 hs hs' (by omega) n9)
        have HE := Lib.hid (solE_yes (b := fitK p q q.length) Hok.out (by rw [he]; simp) hd)
        have he' : ((q.length : Int) == (p.length : Int)) = true := by simp [he]
        clear hs hs' hd Q Hok he
        generalize q.length = m at *
        generalize p.length = n at *
        go_wp2_with fail
        refine HF.out.mono ?_
        rintro e w3 ⟨rfl, rfl⟩
        clear HF cq yq
        go_wp2
        go_ret2
        exact HE.out
      · have HE := Lib.hid (solE_yes (b := false) Hok.out (by rw [decide_eq_false he]; rfl) hd)
        have he' : ((q.length : Int) == (p.length : Int)) = false := by simp; omega
        clear hs hs' hd Q Hok he
        generalize q.length = m at *
        generalize p.length = n at *
        go_wp2
        go_ret2
        exact HE.out

theorem WIsSolution.walk (w : World) (A : Option Addr) (c : Nat) (p : List Int) (h : SlI w w.heap.size A p)
    (hj : p.length ≤ c ∧ c ≤ maxLen ∧ ∀ x ∈ p, (Lit.int .i64 x).wf = true) (A' : Option Addr) (c' : Nat) (q : List Int) (h' : SlI w w.heap.size A' q)
    (hj' : q.length ≤ c' ∧ c' ≤ maxLen ∧ ∀ x ∈ q, (Lit.int .i64 x).wf = true) :
    Calls Try.prog 5 #[.agg #[.slice A p.length c], .slice A' q.length c'] w fun e w' => e = .returned (.bool true) ∧ Below w.heap.size w w' :=
  WIsSolution.core w A c p A' c' q h hj.1 hj.2.1 h' hj'.1 hj'.2.1 (solR p q) (solOk p q)
    (Lib.hid fun A c A' c' w h hl hlc h' hl' hlc' => spec_IsSolution A A' c c' _ _ p q w h (Nat.le_refl _) hl h' (Nat.le_refl _) hl' hlc')
    (Lib.hid fun A c A' c' w h hl hlc h' hl' hlc' => impl_IsSolution A A' c c' _ _ p q w h (Nat.le_refl _) hl h' (Nat.le_refl _) hl' hlc')
end Go.Proofs.Ytnoddecligmjbaa
