/- The places that are no gaps, of the program; gaps counted, of the model and of the program. -/
import Derived.Test.YtnoddecligmjbaaPzB
import Derived.Test.YtnoddecligmjbaaApp
import Derived.Test.YtnoddecligmjbaaQuidM
import Derived.IntWalk
namespace Go.Proofs.Ytnoddecligmjbaa
set_option linter.unusedVariables false
open Go.RowKit

/-- the indices of the first k numbers that are not 0 -/
def fullF (q : List Int) (k : Nat) : List Int := ((List.range k).filter fun i => q.getD i 0 != 0).map fun (i : Nat) => (i : Int)
theorem fullF_zero (q : List Int) : fullF q 0 = [] := rfl
theorem fullF_hit (q : List Int) (k : Nat) (h : q.getD k 0 ≠ 0) : fullF q (k + 1) = fullF q k ++ [(k : Int)] := by
  unfold fullF
  rw [List.range_succ, List.filter_append]
  simp at h
  simp [h]
theorem fullF_miss (q : List Int) (k : Nat) (h : q.getD k 0 = 0) : fullF q (k + 1) = fullF q k := by
  unfold fullF
  rw [List.range_succ, List.filter_append]
  simp
  simpa using h
theorem fullF_le (q : List Int) (k : Nat) : (fullF q k).length ≤ k := by
  unfold fullF
  rw [List.length_map]
  have := List.length_filter_le (fun i => q.getD i 0 != 0) (List.range k)
  simpa using this
theorem fullF_get (q : List Int) : ∀ (k j : Nat), j < (fullF q k).length → ∃ p : Nat, (fullF q k).getD j 0 = (p : Int) ∧ p < k ∧ q.getD p 0 ≠ 0 := by
  intro k j hj
  unfold fullF at hj ⊢
  rw [List.length_map] at hj
  have hm := List.getElem_mem hj
  rw [List.mem_filter] at hm
  obtain ⟨h1, h2⟩ := hm
  refine ⟨((List.range k).filter fun i => q.getD i 0 != 0)[j], ?_, by simpa using h1, by simpa using h2⟩
  rw [List.getD_eq_getElem?_getD, List.getElem?_map, List.getElem?_eq_getElem hj]
  rfl
/-- how many of the first k are 0 -/
def gapN (q : List Int) (k : Nat) : Int := (k : Int) - ((fullF q k).length : Int)
theorem gapN_bd (q : List Int) (k : Nat) : 0 ≤ gapN q k ∧ gapN q k ≤ (k : Int) := by
  have := fullF_le q k
  unfold gapN
  omega
theorem gapN_hit (q : List Int) (k : Nat) (h : q.getD k 0 = 0) : gapN q (k + 1) = gapN q k + 1 := by
  unfold gapN
  rw [fullF_miss q k h]
  omega
theorem gapN_miss (q : List Int) (k : Nat) (h : q.getD k 0 ≠ 0) : gapN q (k + 1) = gapN q k := by
  unfold gapN
  rw [fullF_hit q k h]
  simp
  omega

/-- what holds at the head of the loop that collects the places -/
def Fulls (w2 : World) (q : List Int) (k : Nat) (v : Value) (wr : World) : Prop :=
  ∃ A' c', v = .slice A' (fullF q k).length c' ∧ wr.ownsRow w2.heap.size 3 1 (.slice A' (fullF q k).length c') (fullF q k).length (ics (fullF q k)) ∧ Below w2.heap.size w2 wr

set_option maxRecDepth 100000 in
set_option maxHeartbeats 3200000 in
theorem impl_placesOfNumbers (A : Option Addr) (c B : Nat) (q : List Int) (w : World) (h : SlI w B A q) (hB : B ≤ w.heap.size) (hl : q.length ≤ 12) :
    Calls Try.prog 100 #[.slice A q.length c] w (GivI w (fullF q q.length)) := by
  have hfin : ∀ (A' : Option Addr) (c' : Nat) (wr : World), Fulls w q q.length (.slice A' (fullF q q.length).length c') wr → GivI w (fullF q q.length) (.returned (.slice A' (fullF q q.length).length c')) wr := by
    rintro A' c' wr ⟨A2, c2, e, ho2, hb2⟩
    cases e
    exact ⟨A', c', rfl, ho2, hb2⟩
  have Hfin := Lib.hid hfin
  clear hfin
  go_enter Try.func100, Try.ntmps100
  go_wp2
  go_loopw [3, 4, 5, 8] (fun v _ _ i wr => ∃ k : Nat, k ≤ q.length ∧ i = .int .i64 k ∧ Fulls w q k v wr) (fun _ _ _ i _ => q.length - (intOf i).toNat)
  case atStart => exact ⟨0, Nat.zero_le _, rfl, none, 0, rfl, World.ownsRow_nil _ _ _ _, Below.refl _ _⟩
  case round =>
    obtain ⟨k, hk, rfl, A', c', rfl, ho, hb⟩ := hrel
    by_cases hlt : k < q.length
    · obtain ⟨b, off, rfl, hbB, hc⟩ := h.below (hb.mono hB) (by omega)
      have g := hc k hlt
      have i0 : (0 : Int) ≤ (k : Int) := by omega
      have i1 : (k : Int) < (q.length : Int) := by omega
      have hle := fullF_le q k
      have hzz := hb.size
      have hobl := ho.lt
      have Hobl := Lib.hid hobl
      clear hc hobl
      by_cases hx : q.getD k 0 = 0
      · have hnext := fullF_miss q k hx
        have hE : Fulls w q (k + 1) (.slice A' (fullF q k).length c') wr := by
          refine ⟨A', c', ?_, ?_, hb⟩ <;> rw [hnext]
          exact ho
        have HE := Lib.hid hE
        rw [hx] at g
        clear hnext hE ho hx h
        go_wp2
        go_roundw
        case rel => exact ⟨k + 1, by omega, by go_num, HE.out⟩
        case measure => simp [intOf]; omega
      · have hnext := fullF_hit q k hx
        have Hnext := Lib.hid hnext
        have hx' : (q.getD k 0 != 0) = true := by simpa using hx
        have own2 := ho.alloc (.cells #[.int .i64 k] 3)
        have hb2 := hb.alloc hb.size (.cells #[.int .i64 k] 3)
        generalize q.getD k 0 = x at *
        clear hnext hx ho h
        go_wp2_with (at_builtin; refine append1I _ rfl _ _ rfl w.heap.size (.slice A' (fullF q k).length c') (fullF q k) rfl own2 wr.heap.size k rfl ?c1 ?c2 ?c3 ?_; (case c1 => simp [go_sem]); (case c2 => omega); (case c3 => simp; omega); intro A3 c3 w3 own3 hg3)
        have hb3 := hb2.grown hg3 hb2.size (fun j hj => (Hobl.out j hj).1)
        have hE : Fulls w q (k + 1) (.slice A3 ((fullF q k).length + 1) c3) w3 := by
          refine ⟨A3, c3, ?_, ?_, hb3⟩
          · rw [Hnext.out]; simp
          · rw [Hnext.out]; simpa using own3
        have HE := Lib.hid hE
        clear hE own3 hg3 hb3 hb2 own2
        go_wp2
        go_roundw
        case rel => exact ⟨k + 1, by omega, by go_num, HE.out⟩
        case measure => simp [intOf]; omega
    · obtain rfl : k = q.length := by omega
      have hres := Hfin.out A' c' wr ⟨A', c', rfl, ho, hb⟩
      have Hres := Lib.hid hres
      clear hres ho hb h Hfin
      go_wp2
      go_ret
      exact Hres.out

/-- gaps counted, 0 of what is no puzzle -/
def gapR (l : List Int) : Int := if pzB l = true then gapN l l.length else 0
def GapE (l : List Int) (w : World) (e : Ending) (w' : World) : Prop := e = .returned (.tuple #[.int .i64 (gapR l), .bool (pzB l)]) ∧ Below w.heap.size w w'
theorem gapE_no {l : List Int} {w w' : World} (h : pzB l = false) (hb : Below w.heap.size w w') : GapE l w (.returned (.tuple #[.int .i64 0, .bool false])) w' := by
  unfold GapE gapR
  rw [h]
  exact ⟨rfl, hb⟩
theorem gapE_yes {l : List Int} {w w' : World} (h : pzB l = true) (hb : Below w.heap.size w w') : GapE l w (.returned (.tuple #[.int .i64 (gapN l l.length), .bool true])) w' := by
  unfold GapE gapR
  rw [h]
  exact ⟨rfl, hb⟩

set_option maxRecDepth 100000 in
set_option maxHeartbeats 3200000 in
theorem spec_CountGaps (A : Option Addr) (c B : Nat) (l : List Int) (w : World) (h : SlI w B A l) (hB : B ≤ w.heap.size) (hl : l.length ≤ 1048576) :
    Calls Try.prog 20 #[.agg #[.slice A l.length c]] w (GapE l w) := by
  have hd := below_box (Below.refl w.heap.size w) (Nat.le_refl _) (.cells #[.slice A l.length c] 27)
  have Q := Lib.hid (Bo.new w (.slice A l.length c) 27)
  have hs := h.below (hd.mono hB)
  clear h
  go_enter Try.func20, Try.ntmps20
  go_wp2_with fail
  refine (spec_pzGood A _ c B l _ rfl hs (Nat.le_trans hB hd.size) hl).mono ?_
  rintro e w1 ⟨rfl, hb⟩
  replace Q := Lib.hid (Q.out.kept hb)
  replace hd := below_kept hd (Nat.le_refl _) hb
  replace hs := hs.below (hb.mono (Nat.le_trans hB (by simp)))
  clear hb
  cases hp : pzB l
  · have HE := Lib.hid (gapE_no hp hd)
    clear hp hd hs Q
    go_wp2
    go_ret2
    exact HE.out
  · have HE := Lib.hid (gapE_yes hp hd)
    obtain ⟨h3, h9⟩ := pzB_len hp
    have cq := Q.out.cell
    clear hp
    go_wp2
    go_loop [4, 6, 13] (fun n _ i => ∃ k : Nat, k ≤ l.length ∧ i = .int .i64 k ∧ n = .int .i64 (gapN l k)) (fun _ _ i => l.length - (intOf i).toNat)
    case atStart => exact ⟨0, Nat.zero_le _, rfl, rfl⟩
    case round =>
      obtain ⟨k, hk, rfl, rfl⟩ := hrel
      by_cases hlt : k < l.length
      · obtain ⟨b, off, rfl, hbB, hc⟩ := hs (by omega)
        have g := hc k hlt
        have i0 : (0 : Int) ≤ (k : Int) := by omega
        have i1 : (k : Int) < (l.length : Int) := by omega
        obtain ⟨n0, n1⟩ := gapN_bd l k
        by_cases hx : l.getD k 0 = 0
        · have Hn := Lib.hid (gapN_hit l k hx)
          rw [hx] at g
          clear hx hc hs cq
          generalize gapN l k = y at *
          go_wp2
          go_round
          case rel => exact ⟨k + 1, by omega, by go_num, by rw [Hn.out]⟩
          case measure => simp [intOf]; omega
        · have Hn := Lib.hid (gapN_miss l k hx)
          have hx' : (l.getD k 0 == 0) = false := by simpa using hx
          generalize l.getD k 0 = x at *
          clear hx hc hs cq
          go_wp2
          go_round
          case rel => exact ⟨k + 1, by omega, by go_num, by rw [Hn.out]⟩
          case measure => simp [intOf]; omega
      · obtain rfl : k = l.length := by omega
        clear hs cq hd Q
        go_wp2
        go_ret2
        exact HE.out

set_option maxRecDepth 100000 in
set_option maxHeartbeats 3200000 in
theorem impl_CountGaps (A : Option Addr) (c B : Nat) (l : List Int) (w : World) (h : SlI w B A l) (hB : B ≤ w.heap.size) (hl : l.length ≤ 1048576) :
    Calls Try.prog 21 #[.agg #[.slice A l.length c]] w (GapE l w) := by
  have hd := below_box (Below.refl w.heap.size w) (Nat.le_refl _) (.cells #[.slice A l.length c] 27)
  have Q := Lib.hid (Bo.new w (.slice A l.length c) 27)
  have hs := h.below (hd.mono hB)
  clear h
  go_enter Try.func21, Try.ntmps21
  go_wp2_with fail
  refine (impl_IsPuzzle A _ c B l _ rfl hs (Nat.le_trans hB hd.size) hl).mono ?_
  rintro e w1 ⟨rfl, hb⟩
  replace Q := Lib.hid (Q.out.kept hb)
  replace hd := below_kept hd (Nat.le_refl _) hb
  replace hs := hs.below (hb.mono (Nat.le_trans hB (by simp)))
  clear hb
  cases hp : pzB l
  · have HE := Lib.hid (gapE_no hp hd)
    clear hp hd hs Q
    go_wp2
    go_ret2
    exact HE.out
  · have HE := Lib.hid fun (w' : World) (hb : Below w1.heap.size w1 w') => gapE_yes hp (below_kept hd (Nat.le_refl _) hb)
    obtain ⟨h3, h9⟩ := pzB_len hp
    have cq := Q.out.cell
    have HP := Lib.hid fun w' (hb : Below w1.heap.size w1 w') => impl_placesOfNumbers A c B l w' (hs.below (hb.mono (Nat.le_trans hB hd.size))) (Nat.le_trans hB (Nat.le_trans hd.size hb.size)) (by omega)
    have hle := fullF_le l l.length
    have HG : Hid (gapN l l.length = (l.length : Int) - ((fullF l l.length).length : Int)) := Lib.hid rfl
    clear hp hs hd Q
    go_wp2
    go_region_held3 (fun w' => w'.cell? ⟨w.heap.size, 0, none⟩ = some (.slice A l.length c) ∧ Below w1.heap.size w1 w')
      (first
        | with_reducible exact kept1 (by assumption) hb1 (Nat.le_refl _)
        | exact ⟨cq, (Below.refl _ _).drew⟩)
      (first
        | (go_at_call 100; refine (HP.out _ (And.right (by assumption))).mono ?_; rintro e w2 ⟨A2, c2, rfl, hP, hb1⟩))
    rename_i hS
    have HE2 := Lib.hid (HE.out _ hS.2)
    clear hS hP hb1 HP HE cq
    have hw : IntKind.i64.wrap ((l.length : Int) - ((fullF l l.length).length : Int)) = (l.length : Int) - ((fullF l l.length).length : Int) := IntWalk.i64_in _ (by omega)
    rw [HG.out, ← hw] at HE2
    clear HG hw
    go_wp2
    go_ret2
    exact HE2.out
end Go.Proofs.Ytnoddecligmjbaa
