/- The next row of a frieze: plain mathematics, and the model's frNext. -/
import Derived.Test.YtkekjcfhkecggabL1
import Derived.Test.YtkekjcfhkecggabApp
import Derived.Test.YtkekjcfhkecggabLawM
import Derived.IntWalk
namespace Go.Proofs.Ytkekjcfhkecggab
set_option linter.unusedVariables false
open Go.RowKit

def prN (r : List Int) (t : Nat) : Int := r.getD t 0 * r.getD ((t + 1) % r.length) 0 - 1
def dvN (a r : List Int) (t : Nat) : Int := a.getD ((t + 1) % r.length) 0
def okN (a r : List Int) (t : Nat) : Bool := decide (prN r t % dvN a r t = 0) && inB (prN r t / dvN a r t) 1 10000
def xN (a r : List Int) (t : Nat) : Int := prN r t / dvN a r t
def okUp (a r : List Int) (m : Nat) : Bool := (List.range m).all (okN a r)
def xsN (a r : List Int) (m : Nat) : List Int := (List.range m).map (xN a r)
theorem xsN_length (a r : List Int) (m : Nat) : (xsN a r m).length = m := by simp [xsN]
theorem xsN_succ (a r : List Int) (m : Nat) : xsN a r (m + 1) = xsN a r m ++ [xN a r m] := by simp [xsN, List.range_succ]
theorem okUp_succ (a r : List Int) (m : Nat) : okUp a r (m + 1) = (okUp a r m && okN a r m) := by simp [okUp, List.range_succ]
theorem okUp_no (a r : List Int) (m t : Nat) (h : t < m) (hn : okN a r t = false) : okUp a r m = false := by
  rw [Bool.eq_false_iff]
  intro e
  unfold okUp at e
  rw [List.all_eq_true] at e
  have := e t (List.mem_range.2 h)
  rw [hn] at this
  cases this
def nextOk (a r : List Int) : Bool := okUp a r r.length
def nextL (a r : List Int) : List Int := if nextOk a r = true then xsN a r r.length else []
/-- the numbers of a row lie in 1..10000 -/
def rowB (l : List Int) : Prop := ∀ i, i < l.length → 1 ≤ l.getD i 0 ∧ l.getD i 0 ≤ 10000
theorem rowB_of {l : List Int} {hi : Int} (h : allB l 1 hi = true) (hh : hi ≤ 10000) : rowB l := fun i hi' => by
  unfold allB at h
  rw [List.all_eq_true] at h
  have := h _ (List.getElem_mem hi')
  have e : l.getD i 0 = l[i] := by simp [hi']
  rw [e]
  simp at this
  omega
theorem xsN_rowB {a r : List Int} (m : Nat) (h : okUp a r m = true) : rowB (xsN a r m) := fun i hi => by
  rw [xsN_length] at hi
  have e : (xsN a r m).getD i 0 = xN a r i := by simp [xsN, hi]
  rw [e]
  unfold okUp at h
  rw [List.all_eq_true] at h
  have := h i (List.mem_range.2 hi)
  unfold okN inB at this
  unfold xN
  simp at this
  omega
theorem prod_bd {x y : Int} (hx : 1 ≤ x ∧ x ≤ 10000) (hy : 1 ≤ y ∧ y ≤ 10000) : 1 ≤ x * y ∧ x * y ≤ 100000000 := by
  obtain ⟨x1, x2⟩ := hx
  obtain ⟨y1, y2⟩ := hy
  constructor
  · have := Int.mul_le_mul x1 y1 (by omega) (by omega)
    omega
  · have := Int.mul_le_mul x2 y2 (by omega) (by omega)
    omega
theorem quo_bd {p d : Int} (hp : 0 ≤ p ∧ p ≤ 99999999) (hd : 1 ≤ d) : 0 ≤ p / d ∧ p / d ≤ 99999999 ∧ 0 ≤ p % d ∧ p % d < d := by
  refine ⟨Int.ediv_nonneg hp.1 (by omega), ?_, Int.emod_nonneg _ (by omega), Int.emod_lt_of_pos _ (by omega)⟩
  exact Int.le_trans (Int.ediv_le_self _ hp.1) hp.2
theorem retN_no {a r : List Int} {w w' : World} (h : nextOk a r = false) (hb : Below w.heap.size w w') : RetI w (nextL a r) (nextOk a r) (.returned (.tuple #[.slice none 0 0, .bool false])) w' := by
  unfold nextL
  rw [h]
  exact ⟨none, 0, rfl, World.ownsRow_nil _ _ _ _, hb⟩
theorem retN_yes {a r : List Int} {w w' : World} {A : Option Addr} {c : Nat} (h : nextOk a r = true) (ho : w'.ownsRow w.heap.size 3 1 (.slice A r.length c) r.length (ics (xsN a r r.length))) (hb : Below w.heap.size w w') :
    RetI w (nextL a r) (nextOk a r) (.returned (.tuple #[.slice A r.length c, .bool true])) w' := by
  have e := xsN_length a r r.length
  unfold nextL
  rw [h]
  exact ⟨A, c, by rw [if_pos rfl, e], by rw [if_pos rfl, e]; exact ho, hb⟩

set_option maxRecDepth 100000 in
set_option maxHeartbeats 1600000 in
theorem spec_frNext (A0 : Option Addr) (c0 : Nat) (A1 : Option Addr) (c1 B : Nat) (a r : List Int) (w : World) (h0 : SlI w B A0 a) (h1 : SlI w B A1 r) (hB : B ≤ w.heap.size) (hlen : a.length = r.length) (hn3 : 3 ≤ r.length) (hn12 : r.length ≤ 12) (ha : rowB a) (hr : rowB r) :
    Calls Try.prog 52 #[.slice A0 a.length c0, .slice A1 r.length c1] w (RetI w (nextL a r) (nextOk a r)) := by
  have Ha := Lib.hid ha
  have Hr := Lib.hid hr
  have Hlen := Lib.hid hlen
  clear ha hr hlen
  go_enter Try.func52, Try.ntmps52
  go_wp2
  go_loopw [7, 8, 9, 10, 15] (fun v _ _ _ i wr => ∃ (t : Nat) (A' : Option Addr) (c' : Nat), t ≤ r.length ∧ i = .int .i64 t ∧ v = .slice A' t c' ∧ okUp a r t = true ∧ wr.ownsRow w.heap.size 3 1 (.slice A' t c') t (ics (xsN a r t)) ∧ Below w.heap.size w wr) (fun _ _ _ _ i _ => r.length - (intOf i).toNat)
  case atStart => exact ⟨0, none, 0, Nat.zero_le _, rfl, rfl, rfl, World.ownsRow_nil _ _ _ _, Below.refl _ _⟩
  case round =>
    obtain ⟨t, A', c', ht, rfl, rfl, hu, ho, hb⟩ := hrel
    have hob := ho.lt
    have Hob := Lib.hid hob
    have hsz := hb.size
    clear hob
    by_cases hlt : t < r.length
    · have hst := xsN_succ a r t
      have hus := okUp_succ a r t
      rw [hu, Bool.true_and] at hus
      have hno := okUp_no a r r.length t hlt
      have HLl := Lib.hid (xsN_length a r t)
      have hm : (t + 1) % r.length < r.length := Nat.mod_lt _ (by omega)
      have hmi : ((t : Int) + 1) % (r.length : Int) = (((t + 1) % r.length : Nat) : Int) := by
        rw [show (t : Int) + 1 = ((t + 1 : Nat) : Int) by omega]
        rfl
      obtain ⟨b0, o0, rfl, hb0, k0⟩ := (h0.below (hb.mono hB)) (by have := Hlen.out; omega)
      obtain ⟨b1, o1, rfl, hb1, k1⟩ := (h1.below (hb.mono hB)) (by omega)
      have g0 := k1 t hlt
      have bx := Hr.out t hlt
      have by' := Hr.out _ hm
      have bd := Ha.out _ (Nat.lt_of_lt_of_eq hm Hlen.out.symm)
      have g1 := k1 _ hm
      have g2 := k0 _ (Nat.lt_of_lt_of_eq hm Hlen.out.symm)
      have hokN : okN a r t = (decide ((r.getD t 0 * r.getD ((t + 1) % r.length) 0 - 1) % a.getD ((t + 1) % r.length) 0 = 0) && inB ((r.getD t 0 * r.getD ((t + 1) % r.length) 0 - 1) / a.getD ((t + 1) % r.length) 0) 1 10000) := rfl
      have hxN : xN a r t = (r.getD t 0 * r.getD ((t + 1) % r.length) 0 - 1) / a.getD ((t + 1) % r.length) 0 := rfl
      generalize (t + 1) % r.length = m at *
      generalize r.getD t 0 = x at *
      generalize r.getD m 0 = y at *
      generalize a.getD m 0 = d at *
      have pb := prod_bd bx by'
      have qb := quo_bd (p := x * y - 1) (d := d) (by omega) bd.1
      obtain ⟨p1, p2⟩ := pb
      obtain ⟨q1, q2, q3, q4⟩ := qb
      obtain ⟨d1, d2⟩ := bd
      have t1 : (t : Int) < (r.length : Int) := by omega
      have t2 : (t : Int) ≤ 11 := by omega
      have n1 : (1 : Int) ≤ (r.length : Int) := by omega
      have n2 : (r.length : Int) ≤ 12 := by omega
      have m0 : (0 : Int) ≤ (m : Int) := by omega
      have m1 : (m : Int) < (r.length : Int) := by omega
      have m2 : (m : Int) < (a.length : Int) := by have := Hlen.out; omega
      have Hst := Lib.hid hst
      have Hus := Lib.hid hus
      have Hno := Lib.hid hno
      have HokN := Lib.hid hokN
      have HxN := Lib.hid hxN
      have Ho := Lib.hid ho
      have Hb := Lib.hid hb
      clear hst hus hno hokN hxN ho hb k0 k1 h0 h1 bx by' hu
      by_cases hr0 : (x * y - 1) % d = 0
      · cases hi : inB ((x * y - 1) / d) 1 10000
        · have hres := fun nq => retN_no (Hno.out (by rw [HokN.out, hi, Bool.and_false])) (below_drewN Hb.out nq)
          have Hres := Lib.hid hres
          clear hres Hno
          go_wp2
          go_quiet (fail)
          go_wp2_with fail
          refine (spec_l1In' _ _ _ _).mono ?_
          rintro e w2 ⟨rfl, rfl⟩
          go_wp2
          go_ret2
          exact Hres.out _
        · have hyes := Hus.out
          rw [HokN.out, hi, Bool.and_true, decide_eq_true hr0] at hyes
          have Hyes := Lib.hid hyes
          rw [HxN.out] at Hst
          clear hyes HxN Hno HokN Hus
          have own2 := fun nq => (own_drewN Ho.out nq).alloc (.cells #[.int .i64 ((x * y - 1) / d)] 3)
          have hb2 := fun nq => (below_drewN Hb.out nq).alloc (show w.heap.size ≤ (wr.drewN nq).heap.size from hsz) (.cells #[.int .i64 ((x * y - 1) / d)] 3)
          have hc1 : ∀ nq, ((wr.drewN nq).alloc (.cells #[.int .i64 ((x * y - 1) / d)] 3)).cell? ⟨wr.heap.size, 0, none⟩ = some (.int .i64 ((x * y - 1) / d)) := fun nq => by
            have e : (wr.alloc (.cells #[.int .i64 ((x * y - 1) / d)] 3)).cell? ⟨wr.heap.size, 0, none⟩ = some (.int .i64 ((x * y - 1) / d)) := by simp [go_sem]
            exact e
          have Hc1 := Lib.hid hc1
          have Hb2 := Lib.hid hb2
          have Own2 := Lib.hid own2
          clear hb2 own2 hc1
          go_wp2
          go_quiet (fail)
          go_wp2_with fail
          refine (spec_l1In' _ _ _ _).mono ?_
          rintro e w2 ⟨rfl, rfl⟩
          go_wp2_with (at_builtin; go_loud (refine append1In _ rfl _ _ rfl w.heap.size (.slice A' t c') t (xsN a r t) HLl.out rfl (Own2.out _) wr.heap.size ((x * y - 1) / d) rfl ?c1 ?c2 (Hb2.out _).size ?_; (case c1 => exact Hc1.out _); (case c2 => omega); intro A3 c3 w3 own3 hg3))
          have hb3 := below_grown (Hb2.out _) hg3 (Nat.le_refl _) (fun j hj => (Hob.out j hj).1)
          rw [← Hst.out] at own3
          clear hg3
          go_wp2
          go_roundw
          case rel => exact ⟨t + 1, A3, c3, by omega, by go_num, rfl, Hyes.out, own3, hb3⟩
          case measure => simp [intOf]; omega
      · have hres := fun nq => retN_no (Hno.out (by rw [HokN.out, decide_eq_false hr0, Bool.false_and])) (below_drewN Hb.out nq)
        have Hres := Lib.hid hres
        clear hres Hno
        go_wp2
        go_quiet (fail)
        go_wp2
        go_ret2
        exact Hres.out _
    · obtain rfl : t = r.length := by omega
      have hE := retN_yes (a := a) hu ho hb
      have HE := Lib.hid hE
      clear hE ho hb h0 h1 hu
      go_wp2
      go_ret2
      exact HE.out
end Go.Proofs.Ytkekjcfhkecggab
