/- OnesOf: the model's contract. -/
import Derived.Test.YtfffnkbjhbaceabOneM
import Derived.Test.YtfffnkbjhbaceabEntryOfW
import Derived.Test.YtfffnkbjhbaceabApp
import Derived.Test.YtfffnkbjhbaceabLawM
import Derived.OwnWalk
namespace Go.Proofs.Ytfffnkbjhbaceab
set_option linter.unusedVariables false
open Go.RowKit

theorem retD_on_no {q : List Int} {w w' : World} (h : isQ q = false) (hb : Below w.heap.size w w') : RetD w (onR q) (isQ q) (.returned (.tuple #[.slice none 0 0, .bool false])) w' := by
  rw [onR_no h, h]
  exact ⟨none, 0, rfl, World.ownsRow_nil _ _ _ _, hb⟩

set_option maxRecDepth 100000 in
set_option maxHeartbeats 3200000 in
theorem spec_OnesOf (A : Option Addr) (c B : Nat) (q : List Int) (w : World) (h : SlI w B A q) (hB : B ≤ w.heap.size) (hl : q.length ≤ 1048576) (hlc : q.length ≤ c) :
    Calls Try.prog 26 #[.slice A q.length c] w (RetD w (onR q) (isQ q)) := by
  have hcq := spec_IsQuiddity A c B q w h hB hl hlc
  have HQ := Lib.hid hcq
  clear hcq
  cases hq : isQ q
  · have hE := Lib.hid (fun w' hb => retD_on_no (q := q) (w := w) (w' := w') hq hb)
    rw [hq] at HQ hE
    go_enter Try.func26, Try.ntmps26
    go_wp2_with fail
    refine HQ.out.mono ?_
    rintro e w1 ⟨rfl, hb1⟩
    have hE2 := Lib.hid (hE.out _ hb1)
    clear HQ hE h hb1
    go_wp2
    go_ret2
    exact hE2.out
  · rw [hq] at HQ
    obtain ⟨hn3, hn12⟩ := isQ_len hq
    have HR := Lib.hid (onR_yes hq)
    generalize onR q = R at *
    obtain ⟨n, hn⟩ : ∃ n, n = q.length := ⟨_, rfl⟩
    have Hn := Lib.hid hn
    rw [← hn] at HR hn3 hn12 HQ ⊢
    have hsp := fun (i j : Int) (w : World) (h : SlI w B A q) (hi : -2000 ≤ i ∧ i ≤ 2000) (hij : i ≤ j) (hj : j ≤ i + 20) => spec_frEntry A c B q i j w h (by rw [← hn]; exact hn3) (by rw [← hn]; exact hn12) hi hij hj
    rw [← hn] at hsp
    have Hsp := Lib.hid hsp
    have H := Lib.hid h
    clear hn hsp hq h hl hlc
    go_enter Try.func26, Try.ntmps26
    go_wp2_with fail
    refine HQ.out.mono ?_
    rintro e w1 ⟨rfl, hb1⟩
    have Hb1 := Lib.hid hb1
    have nn : (n : Int) ≤ 12 := by omega
    have nn3 : (3 : Int) ≤ (n : Int) := by omega
    clear HQ hb1
    go_wp2
    go_loopw [5, 6, 7] (fun v i _ wr => ∃ (a : Nat) (L : List (Int × Int)) (A' : Option Addr) (c' : Nat), a ≤ n ∧ L = rws (oB q n) n a ∧ i = .int .i64 a ∧ v = .slice A' L.length c' ∧ wr.ownsRow w.heap.size 83 2 (.slice A' L.length c') L.length (dcs L) ∧ Below w.heap.size w wr) (fun _ i _ _ => n - (intOf i).toNat)
    case atStart => exact ⟨0, [], none, 0, Nat.zero_le _, rfl, rfl, rfl, World.ownsRow_nil _ _ _ _, Hb1.out⟩
    case round =>
      clear Hb1
      obtain ⟨a, L, A', c', ha, hL, rfl, rfl, ho, hb⟩ := hrel
      obtain ⟨w0, hw0⟩ : ∃ w0, w0 = wr := ⟨_, rfl⟩
      subst hw0
      by_cases hlt : a < n
      · have a1 : (a : Int) < (n : Int) := by omega
        have a0 : (0 : Int) ≤ (a : Int) := by omega
        have Hs1 := Lib.hid hL
        have Ho := Lib.hid ho
        have Hb := Lib.hid hb
        clear hL ho hb
        go_wp2
        go_loopw [5, 7] (fun v i wr => ∃ (b : Nat) (M : List (Int × Int)) (A' : Option Addr) (c' : Nat), a + 2 ≤ b ∧ (b ≤ n ∨ b = a + 2) ∧ M = L ++ prs a (oB q n a) b ∧ i = .int .i64 b ∧ v = .slice A' M.length c' ∧ wr.ownsRow w.heap.size 83 2 (.slice A' M.length c') M.length (dcs M) ∧ Below w.heap.size w wr) (fun _ i _ => n + 2 - (intOf i).toNat)
        case atStart =>
          refine ⟨a + 2, L, A', c', Nat.le_refl _, .inr rfl, ?_, by simp, rfl, Ho.out, Hb.out⟩
          rw [prs_none (fun b hb => oB_low hb), List.append_nil]
        case round =>
          clear Ho Hb
          obtain ⟨b, M, A2, c2, hab, hbn, hM, rfl, rfl, ho, hb⟩ := hrel
          by_cases hbl : b < n
          · have b1 : (b : Int) < (n : Int) := by omega
            have b0 : (a : Int) + 2 ≤ (b : Int) := by omega
            have hML : M.length ≤ 1000000 := by
              have h1 := prs_length a (oB q n a) b
              have h2 := rws_length (oB q n) n a
              have h3 : a * n ≤ 12 * 12 := Nat.mul_le_mul (by omega) (by omega)
              rw [hM, List.length_append, Hs1.out]
              omega
            have hob := ho.lt
            have Hob := Lib.hid hob
            have hz := hb.size
            have Ho := Lib.hid ho
            have Hb := Lib.hid hb
            have HM := Lib.hid hM
            by_cases hd : (b : Int) - (a : Int) ≤ (n : Int) - 2
            · have hdb : dB n a b = true := dB_iff.2 ⟨hn3, hn12, hbl, hab, by omega⟩
              obtain ⟨x, hx⟩ : ∃ x, ent q (a : Int) (b : Int) = x := ⟨_, rfl⟩
              have hcall := fun w' (hs : SlI w' B A q) => Hsp.out (a : Int) (b : Int) w' hs ⟨by omega, by omega⟩ (by omega) (by omega)
              rw [hx] at hcall
              have Hcall := Lib.hid hcall
              by_cases hx1 : x = 1
              · have hob : oB q n a b = true := by unfold oB eP; rw [hdb]; simpa using hx.trans hx1
                have hst : M ++ [((a : Int), (b : Int))] = L ++ prs a (oB q n a) (b + 1) := by rw [prs_yes hob, ← List.append_assoc, HM.out]
                have Hst := Lib.hid hst
                subst hx1
                have own2 := ho.alloc (.cells #[.int .i64 (a : Int), .int .i64 (b : Int)] 83)
                have hb2 := hb.alloc hz (.cells #[.int .i64 (a : Int), .int .i64 (b : Int)] 83)
                have hb6 := hb2.size
                clear hx hob hst hcall ho hb hM HM
                go_wp2_with fail
                refine (Hcall.out _ (H.out.below (Hb.out.mono hB))).mono ?_
                rintro e w5 ⟨rfl, rfl⟩
                go_wp2_with (first
                  | (at_builtin; refine append1Dn _ rfl _ _ rfl w.heap.size (.slice A2 M.length c2) M.length M rfl rfl own2 wr.heap.size (a : Int) (b : Int) rfl ?c1 ?c2 ?c3 hb6 ?_; (case c1 => simp [go_sem]); (case c2 => simp [go_sem]); (case c3 => omega); intro A3 c3 w3 own3 hg3))
                have hb7 := hb2.grown hg3 hb6 (fun j hj => (Hob.out j hj).1)
                have hlen : M.length + 1 = (M ++ [((a : Int), (b : Int))]).length := by simp
                rw [hlen] at own3 ⊢
                rw [Hst.out] at own3 ⊢
                clear hg3 hb2 own2 hlen Hcall
                generalize hMM : L ++ prs a (oB q n a) (b + 1) = MM at *
                have HMM := Lib.hid hMM
                clear hMM
                go_wp2
                go_roundw
                case rel => exact ⟨b + 1, MM, A3, c3, by omega, .inl (by omega), HMM.out.symm, by go_num, rfl, own3, hb7⟩
                case measure => simp [intOf]; omega
              · have hob : oB q n a b = false := by unfold oB eP; rw [hdb, hx]; simpa using hx1
                have hst : M = L ++ prs a (oB q n a) (b + 1) := by rw [prs_no hob]; exact HM.out
                have Hst := Lib.hid hst
                have hxe : (x == 1) = false := by simpa using hx1
                clear hx hob hst hcall ho hb hM HM hx1
                go_wp2_with fail
                refine (Hcall.out _ (H.out.below (Hb.out.mono hB))).mono ?_
                rintro e w5 ⟨rfl, rfl⟩
                clear Hcall
                go_wp2
                go_roundw
                case rel => exact ⟨b + 1, M, A2, c2, by omega, .inl (by omega), Hst.out, by go_num, rfl, Ho.out, Hb.out⟩
                case measure => simp [intOf]; omega
            · have hdb : dB n a b = false := by
                cases hh : dB n a b
                · rfl
                · have := dB_iff.1 hh; omega
              have hob : oB q n a b = false := by unfold oB; rw [hdb]; rfl
              have hst : M = L ++ prs a (oB q n a) (b + 1) := by rw [prs_no hob]; exact HM.out
              have Hst := Lib.hid hst
              clear hdb hob hst ho hb hM HM
              go_wp2
              go_roundw
              case rel => exact ⟨b + 1, M, A2, c2, by omega, .inl (by omega), Hst.out, by go_num, rfl, Ho.out, Hb.out⟩
              case measure => simp [intOf]; omega
          · have he : M = rws (oB q n) n (a + 1) := by rw [rws_succ, hM, Hs1.out, prs_end (n := n) (fun b hb => oB_low hb) (fun b hb => oB_high hb) (by omega)]
            have He := Lib.hid he
            have Ho := Lib.hid ho
            have Hb := Lib.hid hb
            clear he ho hb hM
            go_wp2
            go_roundw
            case rel => exact ⟨a + 1, M, A2, c2, by omega, He.out, by go_num, rfl, Ho.out, Hb.out⟩
            case measure => simp [intOf]; omega
      · obtain rfl : a = n := by omega
        have hE : RetD w R true (.returned (.tuple #[.slice A' L.length c', .bool true])) w0 := by
          rw [HR.out, ← hL]
          exact ⟨A', c', rfl, ho, hb⟩
        have HE := Lib.hid hE
        clear hE ho hb hL
        go_wp2
        go_ret2
        exact HE.out
end Go.Proofs.Ytfffnkbjhbaceab
