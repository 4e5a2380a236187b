/- The model's ClosesAt. -/
import Derived.Test.YtkekjcfhkecggabExtS
namespace Go.Proofs.Ytkekjcfhkecggab
set_option linter.unusedVariables false
open Go.RowKit

/-- the first row of ones from row j on, f rows at most -/
def clo (r : List Int) : Nat → Nat → Int × Bool
  | 0, _ => (0, false)
  | f + 1, j => if allB (itL r j).2 1 1 = true then ((j : Int) + 1, true) else if nextOk (itL r j).1 (itL r j).2 = true then clo r f (j + 1) else (0, false)
def cloR (r : List Int) : Int × Bool := if beginB r = true then clo r 9 0 else (0, false)
def CloEnd (r : List Int) (w : World) (e : Ending) (w' : World) : Prop := e = .returned (.tuple #[.int .i64 (cloR r).1, .bool (cloR r).2]) ∧ Below w.heap.size w w'
theorem cloEnd_of {r : List Int} {w w' : World} {x : Int} {b : Bool} (h : cloR r = (x, b)) (hb : Below w.heap.size w w') : CloEnd r w (.returned (.tuple #[.int .i64 x, .bool b])) w' := by
  unfold CloEnd
  rw [h]
  exact ⟨rfl, hb⟩

set_option maxRecDepth 100000 in
set_option maxHeartbeats 3200000 in
theorem spec_ClosesAt (A : Option Addr) (c B : Nat) (r : List Int) (w : World) (h : SlI w B A r) (hB : B ≤ w.heap.size) (hl : r.length ≤ 1048576) (hlc : r.length ≤ c) :
    Calls Try.prog 28 #[.slice A r.length c] w (CloEnd r w) := by
  have hzero := Below.refl w.heap.size w
  go_enter Try.func28, Try.ntmps28
  go_wp2_with fail
  refine (spec_frBegin A c B r _ h hl).mono ?_
  rintro e w1 ⟨rfl, rfl⟩
  cases hb : beginB r
  · have hres := cloEnd_of (r := r) (x := 0) (b := false) (by unfold cloR; rw [hb]; rfl) hzero
    have Hres := Lib.hid hres
    clear hres h hzero
    go_wp2
    go_ret2
    exact Hres.out
  · obtain ⟨⟨n3, n12⟩, hall⟩ := beginB_iff.1 hb
    have Good := Lib.hid (it_good (rowB_of hall (by omega)))
    have End : Hid (∀ x b w', clo r 9 0 = (x, b) → Below w.heap.size w w' → CloEnd r w (.returned (.tuple #[.int .i64 x, .bool b])) w') := Lib.hid fun x b w' he hbl => cloEnd_of (by unfold cloR; rw [if_pos hb]; exact he) hbl
    have hl0 : itL r 0 = (List.replicate r.length 1, r) := rfl
    have L0 := Lib.hid hl0
    obtain ⟨n, hn⟩ : ∃ n, n = r.length := ⟨_, rfl⟩
    have COwn : Hid (∀ w, SlI w B A r → B ≤ w.heap.size → Calls Try.prog 35 #[.slice A n c] w fun e w' => ∃ A' c', e = .returned (.slice A' n c') ∧ w'.ownsRow w.heap.size 3 1 (.slice A' n c') n (ics r) ∧ Below w.heap.size w w') := Lib.hid fun w h hB => by
      exact spec_l1Own_n A n c B r w hn.symm h hB (by omega)
    have GoodL : Hid (∀ j, itOk r j = true → ((itL r j).1.length = n ∧ (itL r j).2.length = n) ∧ rowB (itL r j).1 ∧ rowB (itL r j).2) := Lib.hid fun j hj => by rw [hn]; exact Good.out j hj
    have HN := Lib.hid hn
    rw [← hn] at n3 n12 ⊢
    have H := Lib.hid h
    clear hn hall hb hl hlc hl0 h Good
    go_wp2
    go_loopw [4, 14] (fun v i wr => ∃ (t : Nat) (A' : Option Addr) (c' : Nat), t ≤ n ∧ i = .int .i64 t ∧ v = .slice A' t c' ∧ wr.ownsRow w.heap.size 3 1 (.slice A' t c') t (ics (List.replicate t 1)) ∧ Below w.heap.size w wr) (fun _ i _ => n - (intOf i).toNat)
    case atStart => exact ⟨0, none, 0, Nat.zero_le _, rfl, rfl, World.ownsRow_nil _ _ _ _, hzero⟩
    case round =>
      clear hzero
      obtain ⟨t, A', c', ht, rfl, rfl, ho, hb⟩ := hrel
      have hob := ho.lt
      have Hob := Lib.hid hob
      have hsz := hb.size
      clear hob
      by_cases hlt : t < n
      · have own2 := ho.alloc (.cells #[.int .i64 1] 3)
        have hb2 := hb.alloc hsz (.cells #[.int .i64 1] 3)
        have Hb2 := Lib.hid hb2
        have HLl : Hid ((List.replicate t (1 : Int)).length = t) := Lib.hid (by simp)
        have Hst : Hid (List.replicate (t + 1) (1 : Int) = List.replicate t 1 ++ [1]) := Lib.hid (by rw [List.replicate_succ'])
        clear hb2 ho hb
        go_wp2_with (at_builtin; refine append1In _ rfl _ _ rfl w.heap.size (.slice A' t c') t (List.replicate t 1) HLl.out rfl own2 wr.heap.size 1 rfl ?c1 ?c2 Hb2.out.size ?_; (case c1 => simp [go_sem]); (case c2 => omega); intro A3 c3 w3 own3 hg3)
        have hb3 := below_grown Hb2.out hg3 (Nat.le_refl _) (fun j hj => (Hob.out j hj).1)
        rw [← Hst.out] at own3
        clear hg3 own2
        go_wp2
        go_roundw
        case rel => exact ⟨t + 1, A3, c3, by omega, by go_num, rfl, own3, hb3⟩
        case measure => simp [intOf]; omega
      · obtain rfl : t = n := by omega
        have Ho := Lib.hid ho
        have Hb := Lib.hid hb
        clear ho hb
        go_wp2_with fail
        refine (COwn.out _ (H.out.below (Hb.out.mono hB)) (Nat.le_trans hB Hb.out.size)).mono ?_
        rintro e w2 ⟨A2, c2, rfl, o2, b2⟩
        have ho2 := own_kept Ho.out b2
        have hd2 := below_kept Hb.out (Nat.le_refl _) b2
        have o2' := o2.mono Hb.out.size
        have h1 : w2.ownsRow w.heap.size 3 1 (.slice A' t c') t (ics (itL r 0).1) := by rw [L0.out, ← HN.out]; exact ho2
        have h2 : w2.ownsRow w.heap.size 3 1 (.slice A2 t c2) t (ics (itL r 0).2) := by rw [L0.out]; exact o2'
        have H1 := Lib.hid h1
        have H2 := Lib.hid h2
        have Hd2 := Lib.hid hd2
        clear h1 h2 hd2 o2 o2' b2 ho2 Ho Hb
        go_wp2
        go_loopw [4, 5, 6, 7, 8] (fun v4 v5 kv _ _ wr => ∃ (j f : Nat) (A1 : Option Addr) (c1 : Nat) (A2 : Option Addr) (c2 : Nat), j + f = 9 ∧ kv = .int .i64 ((j : Int) + 1) ∧ v4 = .slice A1 t c1 ∧ v5 = .slice A2 t c2 ∧ itOk r j = true ∧ clo r 9 0 = clo r f j ∧ wr.ownsRow w.heap.size 3 1 (.slice A1 t c1) t (ics (itL r j).1) ∧ wr.ownsRow w.heap.size 3 1 (.slice A2 t c2) t (ics (itL r j).2) ∧ Below w.heap.size w wr) (fun _ _ kv _ _ _ => 20 - (intOf kv).toNat)
        case atStart => exact ⟨0, 9, A', c', A2, c2, rfl, by simp, rfl, rfl, rfl, rfl, H1.out, H2.out, Hd2.out⟩
        case round =>
          clear H1 H2 Hd2
          obtain ⟨j, f, A1, c1, A2, c2, hj, rfl, rfl, rfl, hit, hcl, o1, o2, hb⟩ := hrel
          cases f with
          | zero =>
            have hres := End.out 0 false wr (by rw [hcl]; rfl) hb
            have Hres := Lib.hid hres
            have kj : j = 9 := by omega
            subst kj
            clear hres hcl o1 o2 hb hit
            go_wp2
            go_ret2
            exact Hres.out
          | succ f =>
            obtain ⟨⟨l1, l2⟩, r1, r2⟩ := GoodL.out j hit
            have hsuc := itOk_succ r j
            rw [hit, Bool.true_and] at hsuc
            have hst : clo r (f + 1) j = if allB (itL r j).2 1 1 = true then ((j : Int) + 1, true) else if nextOk (itL r j).1 (itL r j).2 = true then clo r f (j + 1) else (0, false) := rfl
            rw [← hcl] at hst
            have hls : itL r (j + 1) = ((itL r j).2, nextL (itL r j).1 (itL r j).2) := rfl
            have Ls := Lib.hid hls
            have Suc := Lib.hid hsuc
            have Hst := Lib.hid hst
            have C1 : Hid (Calls Try.prog 56 #[.slice A2 t c2, .int .i64 1, .int .i64 1] wr fun e w' => e = .returned (.bool (allB (itL r j).2 1 1)) ∧ wr = w') := Lib.hid (by
              have s2 : SlI wr wr.heap.size A2 (itL r j).2 := by have := o2; rw [← l2] at this; exact SlI.of_own this
              have := spec_l1All A2 c2 wr.heap.size (itL r j).2 1 1 wr s2 (by omega)
              rwa [l2] at this)
            have C3 : Hid (Calls Try.prog 52 #[.slice A1 t c1, .slice A2 t c2] wr (RetI wr (nextL (itL r j).1 (itL r j).2) (nextOk (itL r j).1 (itL r j).2))) := Lib.hid (by
              have s1 : SlI wr wr.heap.size A1 (itL r j).1 := by have := o1; rw [← l1] at this; exact SlI.of_own this
              have s2 : SlI wr wr.heap.size A2 (itL r j).2 := by have := o2; rw [← l2] at this; exact SlI.of_own this
              have := spec_frNext A1 c1 A2 c2 wr.heap.size (itL r j).1 (itL r j).2 wr s1 s2 (Nat.le_refl _) (by omega) (by omega) (by omega) r1 r2
              rwa [l1, l2] at this)
            have NG : Hid (nextOk (itL r j).1 (itL r j).2 = true → (nextL (itL r j).1 (itL r j).2).length = t) := Lib.hid fun h => by rw [(nextL_good h).1, l2]
            have O2 := Lib.hid o2
            have Hb := Lib.hid hb
            have kb1 : (j : Int) ≤ 8 := by omega
            clear hsuc hls l1 l2 r1 r2 o1 o2 hb hit hst hcl
            go_wp2_with fail
            refine C1.out.mono ?_
            rintro e w3 ⟨rfl, rfl⟩
            cases hone : allB (itL r j).2 1 1
            · have hst2 := Hst.out
              rw [hone, if_neg (by simp)] at hst2
              have Hst2 := Lib.hid hst2
              clear hst2
              go_wp2_with fail
              refine C3.out.mono ?_
              rintro e w3 ⟨A3, c3, rfl, o3, b3⟩
              have ho2 := own_kept O2.out b3
              have hd3 := below_kept Hb.out (Nat.le_refl _) b3
              have ho3 := o3.mono Hb.out.size
              cases hok : nextOk (itL r j).1 (itL r j).2
              · have hres := End.out 0 false _ (by rw [Hst2.out, hok]; rfl) hd3
                have Hres := Lib.hid hres
                clear hres C1 C3 NG o3 ho3 ho2 b3
                generalize (nextL (itL r j).1 (itL r j).2).length = z at *
                go_wp2
                go_ret2
                exact Hres.out
              · have hln := NG.out hok
                rw [hln] at ho3 ⊢
                have h1 : w3.ownsRow w.heap.size 3 1 (.slice A2 t c2) t (ics (itL r (j + 1)).1) := by rw [Ls.out]; exact ho2
                have h2 : w3.ownsRow w.heap.size 3 1 (.slice A3 t c3) t (ics (itL r (j + 1)).2) := by rw [Ls.out]; exact ho3
                have h3 : itOk r (j + 1) = true := by rw [Suc.out]; exact hok
                have h4 : clo r 9 0 = clo r f (j + 1) := by rw [Hst2.out, hok]; rfl
                have H1 := Lib.hid h1
                have H2 := Lib.hid h2
                have H3 := Lib.hid h3
                have H4 := Lib.hid h4
                clear h1 h2 h3 h4 C1 C3 NG o3 ho3 ho2 b3 hln
                go_wp2
                go_roundw
                case rel => exact ⟨j + 1, f, A2, c2, A3, c3, by omega, by simp, rfl, rfl, H3.out, H4.out, H1.out, H2.out, hd3⟩
                case measure => simp [intOf]; omega
            · have hres := End.out ((j : Int) + 1) true _ (by rw [Hst.out, hone]; rfl) Hb.out
              have Hres := Lib.hid hres
              clear hres C1 C3 NG
              go_wp2
              go_ret2
              exact Hres.out
end Go.Proofs.Ytkekjcfhkecggab
