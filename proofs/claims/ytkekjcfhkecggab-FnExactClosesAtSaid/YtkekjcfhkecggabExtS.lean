/- Rows below one another: plain mathematics; the model's frBegin and ExtendFrieze. -/
import Derived.Test.YtkekjcfhkecggabBandB
import Derived.Test.YtkekjcfhkecggabNextS
namespace Go.Proofs.Ytkekjcfhkecggab
set_option linter.unusedVariables false
open Go.RowKit

/-- a row and the one above it, j rows down -/
def itL (r : List Int) : Nat → List Int × List Int
  | 0 => (List.replicate r.length 1, r)
  | j + 1 => ((itL r j).2, nextL (itL r j).1 (itL r j).2)
def itOk (r : List Int) (j : Nat) : Bool := (List.range j).all fun i => nextOk (itL r i).1 (itL r i).2
theorem itOk_succ (r : List Int) (j : Nat) : itOk r (j + 1) = (itOk r j && nextOk (itL r j).1 (itL r j).2) := by simp [itOk, List.range_succ]
theorem itOk_no (r : List Int) (j m : Nat) (h : j < m) (hn : nextOk (itL r j).1 (itL r j).2 = false) : itOk r m = false := by
  rw [Bool.eq_false_iff]
  intro e
  unfold itOk at e
  rw [List.all_eq_true] at e
  have := e j (List.mem_range.2 h)
  rw [hn] at this
  cases this
theorem rowB_ones (n : Nat) : rowB (List.replicate n 1) := fun i hi => by
  have hi2 : i < n := by simpa using hi
  have e : (List.replicate n (1 : Int)).getD i 0 = 1 := by simp [List.getD_eq_getElem?_getD, List.getElem?_replicate, hi2]
  rw [e]
  omega
theorem nextL_good {a o : List Int} (h : nextOk a o = true) : (nextL a o).length = o.length ∧ rowB (nextL a o) := by
  unfold nextL
  rw [if_pos h]
  exact ⟨xsN_length a o o.length, xsN_rowB o.length h⟩
theorem it_good {r : List Int} (hr : rowB r) : ∀ j, itOk r j = true → ((itL r j).1.length = r.length ∧ (itL r j).2.length = r.length) ∧ rowB (itL r j).1 ∧ rowB (itL r j).2 := by
  intro j
  induction j with
  | zero => intro _; exact ⟨⟨by simp [itL], rfl⟩, rowB_ones _, hr⟩
  | succ j ih =>
    intro h
    rw [itOk_succ, Bool.and_eq_true] at h
    obtain ⟨⟨h1, h2⟩, _, h4⟩ := ih h.1
    obtain ⟨g1, g2⟩ := nextL_good h.2
    exact ⟨⟨h2, by show (nextL _ _).length = _; rw [g1, h2]⟩, h4, g2⟩
/-- a first row: 3..12 numbers, each in 1..100 -/
def beginB (r : List Int) : Bool := isRowB r 100
theorem beginB_iff {r : List Int} : beginB r = true ↔ (3 ≤ r.length ∧ r.length ≤ 12) ∧ allB r 1 100 = true := by
  unfold beginB isRowB poB
  rw [Bool.and_eq_true]
  simp
  omega
def okEx (r : List Int) (k : Int) : Bool := beginB r && inB k 1 9 && itOk r (k - 1).toNat
def exR (r : List Int) (k : Int) : List Int := if okEx r k = true then (itL r (k - 1).toNat).2 else []
theorem okEx_iff {r : List Int} {k : Int} : okEx r k = true ↔ beginB r = true ∧ (1 ≤ k ∧ k ≤ 9) ∧ itOk r (k - 1).toNat = true := by
  unfold okEx
  rw [Bool.and_eq_true, Bool.and_eq_true, inB_iff', and_assoc]
theorem exR_length (r : List Int) (k : Int) : (exR r k).length ≤ 1000000000 := by
  unfold exR
  split
  · rename_i h
    obtain ⟨h1, _, h3⟩ := okEx_iff.1 h
    obtain ⟨hn, ha⟩ := beginB_iff.1 h1
    have := (it_good (rowB_of ha (by omega)) _ h3).1.2
    omega
  · simp
theorem retE_no {r : List Int} {k : Int} {w w' : World} (h : okEx r k = false) (hb : Below w.heap.size w w') : RetI w (exR r k) (okEx r k) (.returned (.tuple #[.slice none 0 0, .bool false])) w' := by
  unfold exR
  rw [h]
  exact ⟨none, 0, rfl, World.ownsRow_nil _ _ _ _, hb⟩
theorem retE_yes {r : List Int} {k : Int} {w : World} (h : okEx r k = true) (e : Ending) (w' : World) (hr : RetI w (itL r (k - 1).toNat).2 true e w') : RetI w (exR r k) (okEx r k) e w' := by
  unfold exR
  rw [h]
  exact hr

theorem spec_frBegin (A : Option Addr) (c B : Nat) (r : List Int) (w : World) (h : SlI w B A r) (hl : r.length ≤ 1048576) :
    Calls Try.prog 51 #[.slice A r.length c] w fun e w' => e = .returned (.bool (beginB r)) ∧ w = w' := by
  have P : Hid (beginB r = (inB r.length 3 12 && allB r 1 100)) := Lib.hid (by unfold beginB isRowB poB inB; simp)
  go_enter Try.func51, Try.ntmps51
  go_wp2_with fail
  refine (spec_l1In' _ _ _ _).mono ?_
  rintro e w1 ⟨rfl, rfl⟩
  cases hp : inB r.length 3 12
  · go_wp2
    go_ret
    exact ⟨ret_bool (by rw [P.out, hp]; rfl), rfl⟩
  · go_wp2_with fail
    refine (spec_l1All A c B r 1 100 _ h (by omega)).mono ?_
    rintro e w1 ⟨rfl, rfl⟩
    go_wp2
    go_ret
    exact ⟨ret_bool (by rw [P.out, hp, Bool.true_and]), rfl⟩

set_option maxRecDepth 100000 in
set_option maxHeartbeats 3200000 in
theorem spec_ExtendFrieze (A : Option Addr) (c B : Nat) (r : List Int) (k : Int) (w : World) (h : SlI w B A r) (hB : B ≤ w.heap.size) (hl : r.length ≤ 1048576) (hlc : r.length ≤ c) :
    Calls Try.prog 26 #[.slice A r.length c, .int .i64 k] w (RetI w (exR r k) (okEx r k)) := by
  have hzero := Below.refl w.heap.size w
  go_enter Try.func26, Try.ntmps26
  go_wp2_with fail
  refine (spec_frBegin A c B r _ h hl).mono ?_
  rintro e w1 ⟨rfl, rfl⟩
  cases hb : beginB r
  · have hres := retE_no (r := r) (k := k) (by unfold okEx; rw [hb]; rfl) hzero
    have Hres := Lib.hid hres
    clear hres h hzero
    go_wp2
    go_ret2
    exact Hres.out
  · go_wp2_with fail
    refine (spec_l1In' _ _ _ _).mono ?_
    rintro e w1 ⟨rfl, rfl⟩
    cases hi : inB k 1 9
    · have hres := retE_no (r := r) (k := k) (by unfold okEx; rw [hi]; simp) hzero
      have Hres := Lib.hid hres
      clear hres h hzero
      go_wp2
      go_ret2
      exact Hres.out
    · obtain ⟨i0, i1⟩ := inB_iff'.1 hi
      obtain ⟨⟨n3, n12⟩, hall⟩ := beginB_iff.1 hb
      have Good := Lib.hid (it_good (rowB_of hall (by omega)))
      obtain ⟨K, hK⟩ : ∃ K : Nat, k = (K : Int) + 1 := ⟨(k - 1).toNat, by omega⟩
      have hKn : (k - 1).toNat = K := by omega
      have Yes : Hid (itOk r K = true → ∀ e w', RetI w (itL r K).2 true e w' → RetI w (exR r k) (okEx r k) e w') := Lib.hid fun hit e w' hh => retE_yes (okEx_iff.2 ⟨hb, ⟨i0, i1⟩, by rw [hKn]; exact hit⟩) e w' (by rw [hKn]; exact hh)
      have No : Hid (itOk r K = false → ∀ w', Below w.heap.size w w' → RetI w (exR r k) (okEx r k) (.returned (.tuple #[.slice none 0 0, .bool false])) w') := Lib.hid fun hit w' b => retE_no (by unfold okEx; rw [hKn, hit]; simp) b
      generalize exR r k = XR at *
      generalize okEx r k = XO at *
      have K8 : K ≤ 8 := by omega
      subst hK
      have hl0 : itL r 0 = (List.replicate r.length 1, r) := rfl
      have L0 := Lib.hid hl0
      obtain ⟨n, hn⟩ : ∃ n, n = r.length := ⟨_, rfl⟩
      have COwn : Hid (∀ w, SlI w B A r → B ≤ w.heap.size → Calls Try.prog 35 #[.slice A n c] w fun e w' => ∃ A' c', e = .returned (.slice A' n c') ∧ w'.ownsRow w.heap.size 3 1 (.slice A' n c') n (ics r) ∧ Below w.heap.size w w') := Lib.hid fun w h hB => by
        exact spec_l1Own_n A n c B r w hn.symm h hB (by omega)
      have GoodL : Hid (∀ j, itOk r j = true → ((itL r j).1.length = n ∧ (itL r j).2.length = n) ∧ rowB (itL r j).1 ∧ rowB (itL r j).2) := Lib.hid fun j hj => by rw [hn]; exact Good.out j hj
      have HN := Lib.hid hn
      rw [← hn] at n3 n12 ⊢
      have H := Lib.hid h
      clear hn hall hb hi hl hlc hl0 hKn h Good i0 i1
      go_wp2
      go_loopw [6, 20] (fun v i wr => ∃ (t : Nat) (A' : Option Addr) (c' : Nat), t ≤ n ∧ i = .int .i64 t ∧ v = .slice A' t c' ∧ wr.ownsRow w.heap.size 3 1 (.slice A' t c') t (ics (List.replicate t 1)) ∧ Below w.heap.size w wr) (fun _ i _ => n - (intOf i).toNat)
      case atStart => exact ⟨0, none, 0, Nat.zero_le _, rfl, rfl, World.ownsRow_nil _ _ _ _, hzero⟩
      case round =>
        clear hzero
        obtain ⟨t, A', c', ht, rfl, rfl, ho, hb⟩ := hrel
        have hob := ho.lt
        have Hob := Lib.hid hob
        have hsz := hb.size
        clear hob
        by_cases hlt : t < n
        · have own2 := ho.alloc (.cells #[.int .i64 1] 3)
          have hb2 := hb.alloc hsz (.cells #[.int .i64 1] 3)
          have Hb2 := Lib.hid hb2
          have HLl : Hid ((List.replicate t (1 : Int)).length = t) := Lib.hid (by simp)
          have Hst : Hid (List.replicate (t + 1) (1 : Int) = List.replicate t 1 ++ [1]) := Lib.hid (by rw [List.replicate_succ'])
          clear hb2 ho hb
          go_wp2_with (at_builtin; refine append1In _ rfl _ _ rfl w.heap.size (.slice A' t c') t (List.replicate t 1) HLl.out rfl own2 wr.heap.size 1 rfl ?c1 ?c2 Hb2.out.size ?_; (case c1 => simp [go_sem]); (case c2 => omega); intro A3 c3 w3 own3 hg3)
          have hb3 := below_grown Hb2.out hg3 (Nat.le_refl _) (fun j hj => (Hob.out j hj).1)
          rw [← Hst.out] at own3
          clear hg3 own2
          go_wp2
          go_roundw
          case rel => exact ⟨t + 1, A3, c3, by omega, by go_num, rfl, own3, hb3⟩
          case measure => simp [intOf]; omega
        · obtain rfl : t = n := by omega
          have Ho := Lib.hid ho
          have Hb := Lib.hid hb
          clear ho hb
          go_wp2_with fail
          refine (COwn.out _ (H.out.below (Hb.out.mono hB)) (Nat.le_trans hB Hb.out.size)).mono ?_
          rintro e w2 ⟨A2, c2, rfl, o2, b2⟩
          have ho2 := own_kept Ho.out b2
          have hd2 := below_kept Hb.out (Nat.le_refl _) b2
          have o2' := o2.mono Hb.out.size
          have h1 : w2.ownsRow w.heap.size 3 1 (.slice A' t c') t (ics (itL r 0).1) := by rw [L0.out, ← HN.out]; exact ho2
          have h2 : w2.ownsRow w.heap.size 3 1 (.slice A2 t c2) t (ics (itL r 0).2) := by rw [L0.out]; exact o2'
          have H1 := Lib.hid h1
          have H2 := Lib.hid h2
          have Hd2 := Lib.hid hd2
          clear h1 h2 hd2 o2 o2' b2 ho2 Ho Hb
          go_wp2
          go_loopw [1, 6, 7, 8, 9] (fun kv v6 v7 _ _ wr => ∃ (j : Nat) (A1 : Option Addr) (c1 : Nat) (A2 : Option Addr) (c2 : Nat), j ≤ K ∧ kv = .int .i64 ((K : Int) + 1 - (j : Int)) ∧ v6 = .slice A1 t c1 ∧ v7 = .slice A2 t c2 ∧ itOk r j = true ∧ wr.ownsRow w.heap.size 3 1 (.slice A1 t c1) t (ics (itL r j).1) ∧ wr.ownsRow w.heap.size 3 1 (.slice A2 t c2) t (ics (itL r j).2) ∧ Below w.heap.size w wr) (fun kv _ _ _ _ _ => (intOf kv).toNat)
          case atStart => exact ⟨0, A', c', A2, c2, Nat.zero_le _, by simp, rfl, rfl, rfl, H1.out, H2.out, Hd2.out⟩
          case round =>
            clear H1 H2 Hd2
            obtain ⟨j, A1, c1, A2, c2, hj, rfl, rfl, rfl, hit, o1, o2, hb⟩ := hrel
            by_cases hlt : j < K
            · obtain ⟨⟨l1, l2⟩, r1, r2⟩ := GoodL.out j hit
              have hsuc := itOk_succ r j
              rw [hit, Bool.true_and] at hsuc
              have hno := itOk_no r j K hlt
              have hls : itL r (j + 1) = ((itL r j).2, nextL (itL r j).1 (itL r j).2) := rfl
              have Ls := Lib.hid hls
              have Suc := Lib.hid hsuc
              have HNo := Lib.hid hno
              have C3 : Hid (Calls Try.prog 52 #[.slice A1 t c1, .slice A2 t c2] wr (RetI wr (nextL (itL r j).1 (itL r j).2) (nextOk (itL r j).1 (itL r j).2))) := Lib.hid (by
                have s1 : SlI wr wr.heap.size A1 (itL r j).1 := by have := o1; rw [← l1] at this; exact SlI.of_own this
                have s2 : SlI wr wr.heap.size A2 (itL r j).2 := by have := o2; rw [← l2] at this; exact SlI.of_own this
                have := spec_frNext A1 c1 A2 c2 wr.heap.size (itL r j).1 (itL r j).2 wr s1 s2 (Nat.le_refl _) (by omega) (by omega) (by omega) r1 r2
                rwa [l1, l2] at this)
              have NG : Hid (nextOk (itL r j).1 (itL r j).2 = true → (nextL (itL r j).1 (itL r j).2).length = t) := Lib.hid fun h => by rw [(nextL_good h).1, l2]
              have O2 := Lib.hid o2
              have Hb := Lib.hid hb
              have kb1 : (j : Int) < (K : Int) := by omega
              have kb2 : (K : Int) ≤ 8 := by omega
              clear hsuc hno hls l1 l2 r1 r2 o1 o2 hb hit
              go_wp2_with fail
              refine C3.out.mono ?_
              rintro e w3 ⟨A3, c3, rfl, o3, b3⟩
              have ho2 := own_kept O2.out b3
              have hd3 := below_kept Hb.out (Nat.le_refl _) b3
              have ho3 := o3.mono Hb.out.size
              cases hok : nextOk (itL r j).1 (itL r j).2
              · have hres := No.out (HNo.out hok) _ hd3
                have Hres := Lib.hid hres
                clear hres C3 NG o3 ho3 ho2 b3
                generalize (nextL (itL r j).1 (itL r j).2).length = z at *
                go_wp2
                go_ret2
                exact Hres.out
              · have hln := NG.out hok
                rw [hln] at ho3 ⊢
                have h1 : w3.ownsRow w.heap.size 3 1 (.slice A2 t c2) t (ics (itL r (j + 1)).1) := by rw [Ls.out]; exact ho2
                have h2 : w3.ownsRow w.heap.size 3 1 (.slice A3 t c3) t (ics (itL r (j + 1)).2) := by rw [Ls.out]; exact ho3
                have h3 : itOk r (j + 1) = true := by rw [Suc.out]; exact hok
                have H1 := Lib.hid h1
                have H2 := Lib.hid h2
                have H3 := Lib.hid h3
                clear h1 h2 h3 C3 NG o3 ho3 ho2 b3 hln
                go_wp2
                go_roundw
                case rel => exact ⟨j + 1, A2, c2, A3, c3, by omega, by simp; omega, rfl, rfl, H3.out, H1.out, H2.out, hd3⟩
                case measure => simp [intOf]; omega
            · obtain rfl : j = K := by omega
              have hl2 := (GoodL.out j hit).1.2
              have hE := Yes.out hit (.returned (.tuple #[.slice A2 t c2, .bool true])) wr ⟨A2, c2, by rw [hl2], by rw [hl2]; exact o2, hb⟩
              have HE := Lib.hid hE
              have hk1 : (j : Int) + 1 - (j : Int) = 1 := by omega
              clear hE o1 o2 hb hit
              go_wp2
              go_ret2
              exact HE.out
end Go.Proofs.Ytkekjcfhkecggab
