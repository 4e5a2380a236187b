/- The model's poMap, poTurn, poMirror. -/
import Derived.Test.YtbpaaoeefcebeabTurnM
import Derived.Test.YtbpaaoeefcebeabSortS
import Derived.Test.YtbpaaoeefcebeabApp
namespace Go.Proofs.Ytbpaaoeefcebeab
set_option linter.unusedVariables false
open Go.RowKit

theorem spec_l1Least (a b : Int) (w : World) : Calls Try.prog 129 #[.int .i64 a, .int .i64 b] w fun e w' => e = .returned (.int .i64 (min a b)) ∧ w = w' := by
  by_cases h : a < b
  · have e : min a b = a := by omega
    rw [e]
    clear e
    go_enter Try.func129, Try.ntmps129
    go_wp2
    go_ret
    exact ⟨rfl, rfl⟩
  · have e : min a b = b := by omega
    rw [e]
    clear e
    go_enter Try.func129, Try.ntmps129
    go_wp2
    go_ret
    exact ⟨rfl, rfl⟩
theorem spec_l1Most (a b : Int) (w : World) : Calls Try.prog 130 #[.int .i64 a, .int .i64 b] w fun e w' => e = .returned (.int .i64 (max a b)) ∧ w = w' := by
  by_cases h : b < a
  · have e : max a b = a := by omega
    rw [e]
    clear e
    go_enter Try.func130, Try.ntmps130
    go_wp2
    go_ret
    exact ⟨rfl, rfl⟩
  · have e : max a b = b := by omega
    rw [e]
    clear e
    go_enter Try.func130, Try.ntmps130
    go_wp2
    go_ret
    exact ⟨rfl, rfl⟩

theorem spec_poSorted_n (A : Option Addr) (n c B : Nat) (l : List (Int × Int)) (w : World) (hn : l.length = n) (h : SlD w B A l) (hB : B ≤ w.heap.size) (hl : n ≤ 1000) :
    Calls Try.prog 131 #[.slice A n c] w (GivD w (sortD l)) := by
  subst hn
  exact spec_poSorted A c B l w h hB hl

set_option maxRecDepth 100000 in
set_option maxHeartbeats 1600000 in
theorem spec_poMap (A : Option Addr) (c B : Nat) (l : List (Int × Int)) (A2 : Option Addr) (c2 B2 m : Nat) (f : Int → Int) (w : World) (h : SlD w B A l) (hB : B ≤ w.heap.size) (h2 : SlI w B2 A2 (tabL f m)) (hB2 : B2 ≤ w.heap.size)
    (hl : l.length ≤ 1000) (hin : ∀ d ∈ l, 0 ≤ d.1 ∧ d.1 < m ∧ 0 ≤ d.2 ∧ d.2 < m) :
    Calls Try.prog 110 #[.slice A l.length c, .slice A2 m c2] w (GivD w (sortD (mvL (byL (tabL f m)) l))) := by
  go_enter Try.func110, Try.ntmps110
  go_wp2
  go_loopw [5, 7, 8, 9, 12] (fun v _ _ _ i wr => ∃ (k : Nat) (A' : Option Addr) (c' : Nat), k ≤ l.length ∧ i = .int .i64 k ∧ v = .slice A' k c' ∧ wr.ownsRow w.heap.size 65 2 (.slice A' k c') k (dcs (mvL (byL (tabL f m)) (l.take k))) ∧ Below w.heap.size w wr) (fun _ _ _ _ i _ => l.length - (intOf i).toNat)
  case atStart => exact ⟨0, none, 0, Nat.zero_le _, rfl, rfl, World.ownsRow_nil _ _ _ _, Below.refl _ _⟩
  case round =>
    obtain ⟨k, A', c', hk, rfl, rfl, ho, hb⟩ := hrel
    by_cases hlt : k < l.length
    · obtain ⟨b, off, rfl, hbB, hc⟩ := h.below (hb.mono hB) (by omega)
      obtain ⟨g0, g1⟩ := hc k hlt
      have hd := hin (l.getD k (0, 0)) (by simp [hlt])
      have hst := mvL_take (byL (tabL f m)) l k hlt
      have i0 : (0 : Int) ≤ (k : Int) := by omega
      have i1 : (k : Int) < (l.length : Int) := by omega
      have hLl : (mvL (byL (tabL f m)) (l.take k)).length = k := by rw [mvL_length]; simp; omega
      generalize mvL (byL (tabL f m)) (l.take k) = L at *
      generalize l.getD k (0, 0) = d at *
      obtain ⟨x, y⟩ := d
      dsimp only at g0 g1 hd
      obtain ⟨x0, x1, y0, y1⟩ := hd
      obtain ⟨x, rfl⟩ := Int.eq_ofNat_of_zero_le x0
      obtain ⟨y, rfl⟩ := Int.eq_ofNat_of_zero_le y0
      obtain ⟨b2, off2, rfl, hb2B, hc2⟩ := h2.below (hb.mono hB2) (by rw [tabL_length]; omega)
      have t0 := hc2 x (by rw [tabL_length]; omega)
      have t1 := hc2 y (by rw [tabL_length]; omega)
      have hmv : mvD (byL (tabL f m)) ((x : Int), (y : Int)) = (min ((tabL f m).getD x 0) ((tabL f m).getD y 0), max ((tabL f m).getD x 0) ((tabL f m).getD y 0)) := by simp [mvD, byL]
      rw [hmv] at hst
      generalize (tabL f m).getD x 0 = p at *
      generalize (tabL f m).getD y 0 = q at *
      have hsz := hb.size
      have hob := ho.lt
      have Hst := Lib.hid hst
      have HLl := Lib.hid hLl
      have Hob := Lib.hid hob
      have hb3 : b2 < wr.heap.size := by omega
      clear hc hc2 hst hmv hLl hob
      go_wp2
      go_quiet (fail)
      have ho2 := (own_drewN (ho.alloc (.cells #[.int .i64 x, .int .i64 y] 65)) nq).alloc (.cells #[.int .i64 (min p q), .int .i64 (max p q)] 65)
      have hb4 := (below_drewN (hb.alloc hsz (.cells #[.int .i64 x, .int .i64 y] 65)) nq)
      have hb5 := hb4.alloc hb4.size (.cells #[.int .i64 (min p q), .int .i64 (max p q)] 65)
      have hb6 := hb5.size
      clear ho hb hb4 g0 g1 t0 t1
      go_wp2_with (first
        | (go_at_call 129; ((with_reducible refine (spec_l1Least _ _ _).mono ?_); rintro e w' ⟨rfl, rfl⟩))
        | (go_at_call 130; ((with_reducible refine (spec_l1Most _ _ _).mono ?_); rintro e w' ⟨rfl, rfl⟩))
        | (at_builtin; refine append1Dn _ rfl _ _ rfl w.heap.size (.slice A' k c') k L HLl.out rfl ho2 (wr.heap.size + 1) (min p q) (max p q) rfl ?c1 ?c2 ?c3 hb6 ?_; (case c1 => simp [go_sem]); (case c2 => simp [go_sem]); (case c3 => omega); intro A3 c3 w3 own3 hg3))
      have hb7 := hb5.grown hg3 hb6 (fun j hj => (Hob.out j hj).1)
      rw [← Hst.out] at own3
      clear hg3 hb5 ho2
      go_wp2
      go_roundw
      case rel => exact ⟨k + 1, A3, c3, by omega, by go_num, rfl, own3, hb7⟩
      case measure => simp [intOf]; omega
    · obtain rfl : k = l.length := by omega
      rw [List.take_length] at ho
      have hsd := SlD.of_own (l := mvL (byL (tabL f m)) l) ho
      have hL2 := mvL_length (byL (tabL f m)) l
      have HL2 := Lib.hid hL2
      clear hL2
      generalize mvL (byL (tabL f m)) l = L at *
      clear ho h h2
      go_wp2_with fail
      refine (spec_poSorted_n A' l.length c' wr.heap.size L _ HL2.out hsd (Nat.le_refl _) hl).mono ?_
      rintro e w2 ⟨A9, c9, rfl, o9, b9⟩
      have hres : GivD w (sortD L) (.returned (.slice A9 (sortD L).length c9)) w2 := ⟨A9, c9, rfl, o9.mono hb.size, below_kept hb (Nat.le_refl _) b9⟩
      have Hres := Lib.hid hres
      clear hres o9 b9 hb hsd
      go_wp2
      go_ret
      exact Hres.out

/-- what holds at the head of the loops that list where the corners go -/
def Tab (w : World) (f : Int → Int) (m k : Nat) (v : Value) (wr : World) : Prop :=
  ∃ A' c', v = .slice A' k c' ∧ wr.ownsRow w.heap.size 3 1 (.slice A' k c') k (ics (tabL f k)) ∧ Below w.heap.size w wr

set_option maxRecDepth 100000 in
set_option maxHeartbeats 1600000 in
theorem spec_poTurn_d (n : Int) (m : Nat) (kk : Int) (A : Option Addr) (c B : Nat) (l : List (Int × Int)) (w : World) (hm : n = m) (hm12 : m ≤ 12) (hk0 : 0 ≤ kk) (hk1 : kk < m) (ht : Dgs n l) (h : SlD w B A l) (hB : B ≤ w.heap.size) :
    Calls Try.prog 76 #[.int .i64 n, .slice A l.length c, .int .i64 kk] w (GivD w (sortD (mvL (turnF n kk) l))) := by
  have hmv := mvL_tab_d hm ht (turnF n kk)
  have hmem := ht.2.2.2
  obtain ⟨hn3', hn12', hn, _⟩ := id ht
  have hll : l.length ≤ 1000 := by omega
  rw [← hmv]
  have HM : Hid (∀ d ∈ l, 0 ≤ d.1 ∧ d.1 < m ∧ 0 ≤ d.2 ∧ d.2 < m) := Lib.hid (fun d hd => by have := hmem d hd; omega)
  subst hm
  clear hmv hmem hn ht
  go_enter Try.func76, Try.ntmps76
  go_wp2
  go_loopw [7, 8] (fun v i wr => ∃ k : Nat, k ≤ m ∧ i = .int .i64 k ∧ Tab w (turnF m kk) m k v wr) (fun _ i _ => m - (intOf i).toNat)
  case atStart => exact ⟨0, Nat.zero_le _, rfl, none, 0, rfl, World.ownsRow_nil _ _ _ _, Below.refl _ _⟩
  case round =>
    obtain ⟨k, hk, rfl, A', c', rfl, ho, hb⟩ := hrel
    have hob := ho.lt
    have Hob := Lib.hid hob
    have hsz := hb.size
    clear hob
    by_cases hlt : k < m
    · have hst := tabL_succ (turnF m kk) k
      have hev : turnF m kk k = ((k : Int) + kk) % (m : Int) := rfl
      rw [hev] at hst
      have hLl := tabL_length (turnF m kk) k
      have Hst := Lib.hid hst
      have HLl := Lib.hid hLl
      generalize tabL (turnF m kk) k = L at *
      have hr0 : 0 ≤ ((k : Int) + kk) % (m : Int) := Int.emod_nonneg _ (by omega)
      have own2 := ho.alloc (.cells #[.int .i64 (((k : Int) + kk) % (m : Int))] 3)
      have hb2 := hb.alloc hsz (.cells #[.int .i64 (((k : Int) + kk) % (m : Int))] 3)
      have m1 : (1 : Int) ≤ (m : Int) := by omega
      clear hst hLl hev ho hb
      go_wp2_with (at_builtin; refine append1In _ rfl _ _ rfl w.heap.size (.slice A' k c') k L HLl.out rfl own2 wr.heap.size (((k : Int) + kk) % (m : Int)) rfl ?c1 ?c2 ?c3 ?_; (case c1 => simp [go_sem]); (case c2 => omega); (case c3 => simp; omega); intro A3 c3 w3 own3 hg3)
      have hb3 := hb2.grown hg3 hb2.size (fun j hj => (Hob.out j hj).1)
      have hE : Tab w (turnF m kk) m (k + 1) (.slice A3 (k + 1) c3) w3 := ⟨A3, c3, rfl, by rw [Hst.out]; exact own3, hb3⟩
      have HE := Lib.hid hE
      clear hE own3 hg3 hb3 hb2 own2
      go_wp2
      go_roundw
      case rel => exact ⟨k + 1, by omega, by go_num, HE.out⟩
      case measure => simp [intOf]; omega
    · obtain rfl : k = m := by omega
      have hLl := tabL_length (turnF k kk) k
      have hT : SlI wr wr.heap.size A' (tabL (turnF k kk) k) := SlI.of_own ho
      have HT := Lib.hid hT
      clear hT hLl ho
      go_wp2_with fail
      refine (spec_poMap A c B l A' c' wr.heap.size k (turnF k kk) _ (h.below (hb.mono hB)) (Nat.le_trans hB hsz) HT.out (Nat.le_refl _) hll HM.out).mono ?_
      rintro e w2 ⟨A9, c9, rfl, o9, b9⟩
      have hres : GivD w (sortD (mvL (byL (tabL (turnF k kk) k)) l)) (.returned (.slice A9 (sortD (mvL (byL (tabL (turnF k kk) k)) l)).length c9)) w2 := ⟨A9, c9, rfl, o9.mono hsz, below_kept hb (Nat.le_refl _) b9⟩
      have Hres := Lib.hid hres
      clear hres o9 b9 hb h HT
      go_wp2
      go_ret
      exact Hres.out
theorem spec_poTurn (n : Int) (m : Nat) (kk : Int) (A : Option Addr) (c B : Nat) (l : List (Int × Int)) (w : World) (hm : n = m) (hm12 : m ≤ 12) (hk0 : 0 ≤ kk) (hk1 : kk < m) (ht : triB n l = true) (h : SlD w B A l) (hB : B ≤ w.heap.size) :
    Calls Try.prog 76 #[.int .i64 n, .slice A l.length c, .int .i64 kk] w (GivD w (sortD (mvL (turnF n kk) l))) := spec_poTurn_d n m kk A c B l w hm hm12 hk0 hk1 (tri_dgs ht) h hB


set_option maxRecDepth 100000 in
set_option maxHeartbeats 1600000 in
theorem spec_poMirror (n : Int) (m : Nat) (A : Option Addr) (c B : Nat) (l : List (Int × Int)) (w : World) (hm : n = m) (hm12 : m ≤ 12) (ht : triB n l = true) (h : SlD w B A l) (hB : B ≤ w.heap.size) :
    Calls Try.prog 79 #[.int .i64 n, .slice A l.length c] w (GivD w (sortD (mvL (mirrF n) l))) := by
  have hmv := mvL_tab hm ht (mirrF n)
  have hmem := tri_mem ht
  have hn := tri_n ht
  have hll : l.length ≤ 1000 := by omega
  rw [← hmv]
  have HM : Hid (∀ d ∈ l, 0 ≤ d.1 ∧ d.1 < m ∧ 0 ≤ d.2 ∧ d.2 < m) := Lib.hid (fun d hd => by have := hmem d hd; omega)
  subst hm
  clear hmv hmem hn ht
  go_enter Try.func79, Try.ntmps79
  go_wp2
  go_loopw [5, 6] (fun v i wr => ∃ k : Nat, k ≤ m ∧ i = .int .i64 k ∧ Tab w (mirrF m) m k v wr) (fun _ i _ => m - (intOf i).toNat)
  case atStart => exact ⟨0, Nat.zero_le _, rfl, none, 0, rfl, World.ownsRow_nil _ _ _ _, Below.refl _ _⟩
  case round =>
    obtain ⟨k, hk, rfl, A', c', rfl, ho, hb⟩ := hrel
    have hob := ho.lt
    have Hob := Lib.hid hob
    have hsz := hb.size
    clear hob
    by_cases hlt : k < m
    · have hst := tabL_succ (mirrF m) k
      have hev : mirrF m k = (m : Int) - 1 - (k : Int) := rfl
      rw [hev] at hst
      have hLl := tabL_length (mirrF m) k
      have Hst := Lib.hid hst
      have HLl := Lib.hid hLl
      generalize tabL (mirrF m) k = L at *
      have own2 := ho.alloc (.cells #[.int .i64 ((m : Int) - 1 - (k : Int))] 3)
      have hb2 := hb.alloc hsz (.cells #[.int .i64 ((m : Int) - 1 - (k : Int))] 3)
      have m1 : (1 : Int) ≤ (m : Int) := by omega
      clear hst hLl hev ho hb
      go_wp2_with (at_builtin; refine append1In _ rfl _ _ rfl w.heap.size (.slice A' k c') k L HLl.out rfl own2 wr.heap.size ((m : Int) - 1 - (k : Int)) rfl ?c1 ?c2 ?c3 ?_; (case c1 => simp [go_sem]); (case c2 => omega); (case c3 => simp; omega); intro A3 c3 w3 own3 hg3)
      have hb3 := hb2.grown hg3 hb2.size (fun j hj => (Hob.out j hj).1)
      have hE : Tab w (mirrF m) m (k + 1) (.slice A3 (k + 1) c3) w3 := ⟨A3, c3, rfl, by rw [Hst.out]; exact own3, hb3⟩
      have HE := Lib.hid hE
      clear hE own3 hg3 hb3 hb2 own2
      go_wp2
      go_roundw
      case rel => exact ⟨k + 1, by omega, by go_num, HE.out⟩
      case measure => simp [intOf]; omega
    · obtain rfl : k = m := by omega
      have hT : SlI wr wr.heap.size A' (tabL (mirrF k) k) := SlI.of_own ho
      have HT := Lib.hid hT
      clear hT ho
      go_wp2_with fail
      refine (spec_poMap A c B l A' c' wr.heap.size k (mirrF k) _ (h.below (hb.mono hB)) (Nat.le_trans hB hsz) HT.out (Nat.le_refl _) hll HM.out).mono ?_
      rintro e w2 ⟨A9, c9, rfl, o9, b9⟩
      have hres : GivD w (sortD (mvL (byL (tabL (mirrF k) k)) l)) (.returned (.slice A9 (sortD (mvL (byL (tabL (mirrF k) k)) l)).length c9)) w2 := ⟨A9, c9, rfl, o9.mono hsz, below_kept hb (Nat.le_refl _) b9⟩
      have Hres := Lib.hid hres
      clear hres o9 b9 hb h HT
      go_wp2
      go_ret
      exact Hres.out
end Go.Proofs.Ytbpaaoeefcebeab
