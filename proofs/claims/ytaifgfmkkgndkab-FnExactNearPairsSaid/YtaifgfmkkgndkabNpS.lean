/- The model's near pairs. -/
import Derived.Test.YtaifgfmkkgndkabNpM
import Derived.Deep.DeepCutAuto
import Derived.BigRegion
namespace Go.Proofs.Ytaifgfmkkgndkab
set_option linter.unusedVariables false
open Go.RowKit

theorem twoA (w : World) (t s : TypeId) (x y u v : Int) : Bx2 ((w.alloc (.cells #[.int .i64 x, .int .i64 y] t)).alloc (.cells #[.int .i64 u, .int .i64 v] s)).drew w.heap.size x y := (Bx2.new w t x y).alloc _
theorem twoB (w : World) (t s : TypeId) (x y u v : Int) : Bx2 ((w.alloc (.cells #[.int .i64 x, .int .i64 y] t)).alloc (.cells #[.int .i64 u, .int .i64 v] s)).drew (w.heap.size + 1) u v := by
  have h := Bx2.new (w.alloc (.cells #[.int .i64 x, .int .i64 y] t)) s u v
  have h2 : Bx2 ((w.alloc (.cells #[.int .i64 x, .int .i64 y] t)).alloc (.cells #[.int .i64 u, .int .i64 v] s)) (w.heap.size + 1) u v := by simpa using h
  exact h2
theorem retD_np_no {l : List (Int × Int)} {w w' : World} (h : polB l = false) (hb : Below w.heap.size w w') : RetD w (npR l) (polB l) (.returned (.tuple #[.slice none 0 0, .bool false])) w' := by
  rw [npR_no h, h]
  exact ⟨none, 0, rfl, World.ownsRow_nil _ _ _ _, hb⟩
set_option maxRecDepth 100000 in
set_option maxHeartbeats 3200000 in
theorem spec_NearPairs (A : Option Addr) (c B : Nat) (l : List (Int × Int)) (w : World) (h : SlD w B A l) (hB : B ≤ w.heap.size) (hl : l.length ≤ 1048576) (hlc : l.length ≤ c) :
    Calls Try.prog 35 #[.slice A l.length c] w (RetD w (npR l) (polB l)) := by
  have hcq := spec_nbPolygon A c B l w h hB hl
  have HQ := Lib.hid hcq
  clear hcq
  cases hq : polB l
  · have hE := Lib.hid (fun w' hb => retD_np_no (l := l) (w := w) (w' := w') hq hb)
    rw [hq] at HQ hE
    go_enter Try.func35, Try.ntmps35
    go_wp2_with fail
    refine HQ.out.mono ?_
    rintro e w1 ⟨rfl, hb1⟩
    have hE2 := Lib.hid (hE.out _ hb1)
    clear HQ hE h hb1
    go_wp2
    go_ret2
    exact hE2.out
  · rw [hq] at HQ
    obtain ⟨⟨hn3, hn12⟩, _⟩ := polB_iff.1 hq
    have Hpol := Lib.hid hq
    have HR := Lib.hid (npR_yes hq)
    generalize npR l = R at *
    obtain ⟨n, hn⟩ : ∃ n, n = l.length := ⟨_, rfl⟩
    have Hn := Lib.hid hn
    rw [← hn] at HR hn3 hn12 HQ ⊢
    have H := Lib.hid h
    clear hn hq h hl hlc
    go_enter Try.func35, Try.ntmps35
    go_wp2_with fail
    refine HQ.out.mono ?_
    rintro e w1 ⟨rfl, hb1⟩
    have Hb1 := Lib.hid hb1
    have nn : (n : Int) ≤ 12 := by omega
    have nn3 : (3 : Int) ≤ (n : Int) := by omega
    clear HQ hb1
    go_wp2
    go_loopw [5, 6, 7] (fun v i _ wr => ∃ (a : Nat) (L : List (Int × Int)) (A' : Option Addr) (c' : Nat), a ≤ n ∧ L = rws (oN l n) n a ∧ i = .int .i64 a ∧ v = .slice A' L.length c' ∧ wr.ownsRow w.heap.size 83 2 (.slice A' L.length c') L.length (dcs L) ∧ Below w.heap.size w wr) (fun _ i _ _ => n - (intOf i).toNat)
    case atStart => exact ⟨0, [], none, 0, Nat.zero_le _, rfl, rfl, rfl, World.ownsRow_nil _ _ _ _, Hb1.out⟩
    case round =>
      clear Hb1
      obtain ⟨a, L, A', c', ha, hL, rfl, rfl, ho, hb⟩ := hrel
      obtain ⟨w0, hw0⟩ : ∃ w0, w0 = wr := ⟨_, rfl⟩
      subst hw0
      by_cases hlt : a < n
      · have a1 : (a : Int) < (n : Int) := by omega
        have a0 : (0 : Int) ≤ (a : Int) := by omega
        have Hs1 := Lib.hid hL
        have Ho := Lib.hid ho
        have Hb := Lib.hid hb
        clear hL ho hb
        go_wp2
        go_loopw [5, 7] (fun v i wr => ∃ (b : Nat) (M : List (Int × Int)) (A' : Option Addr) (c' : Nat), a + 2 ≤ b ∧ (b ≤ n ∨ b = a + 2) ∧ M = L ++ prs a (oN l n a) b ∧ i = .int .i64 b ∧ v = .slice A' M.length c' ∧ wr.ownsRow w.heap.size 83 2 (.slice A' M.length c') M.length (dcs M) ∧ Below w.heap.size w wr) (fun _ i _ => n + 2 - (intOf i).toNat)
        case atStart =>
          refine ⟨a + 2, L, A', c', Nat.le_refl _, .inr rfl, ?_, by simp, rfl, Ho.out, Hb.out⟩
          rw [prs_none (fun b hb => oN_low hb), List.append_nil]
        case round =>
          clear Ho Hb
          obtain ⟨b, M, A2, c2, hab, hbn, hM, rfl, rfl, ho, hb⟩ := hrel
          by_cases hbl : b < n
          · have b1 : (b : Int) < (n : Int) := by omega
            have b0 : (a : Int) + 2 ≤ (b : Int) := by omega
            have hML : M.length ≤ 1000000 := by
              have h1 := prs_length a (oN l n a) b
              have h2 := rws_length (oN l n) n a
              have h3 : a * n ≤ 12 * 12 := Nat.mul_le_mul (by omega) (by omega)
              rw [hM, List.length_append, Hs1.out]
              omega
            have hob := ho.lt
            have Hob := Lib.hid hob
            have hz := hb.size
            have Ho := Lib.hid ho
            have Hb := Lib.hid hb
            have HM := Lib.hid hM
            obtain ⟨f, hf⟩ : ∃ f, f = (a + n - 1) % n := ⟨_, rfl⟩
            have hfn : f < n := by rw [hf]; exact Nat.mod_lt _ (by omega)
            have hA := H.out.below (Hb.out.mono hB)
            obtain ⟨b0', off, rfl, hbB, hc⟩ := hA (by rw [← Hn.out]; omega)
            obtain ⟨p0, p1⟩ := hc f (by rw [← Hn.out]; exact hfn)
            obtain ⟨q0, q1⟩ := hc (b - 1) (by rw [← Hn.out]; omega)
            have hbw : b0' < wr.heap.size := World.block_lt_of_cell? wr _ p0
            have m1 : ((a : Int) + (n : Int) - 1) % (n : Int) = (f : Int) := by
              rw [hf, show (a : Int) + (n : Int) - 1 = ((a + n - 1 : Nat) : Int) by omega]
              rfl
            have v1 : IntKind.i64.wrap ((a : Int) + (n : Int)) = (a : Int) + (n : Int) := IntWalk.i64_in _ (by omega)
            have v2 : IntKind.i64.wrap ((a : Int) + (n : Int) - 1) = (a : Int) + (n : Int) - 1 := IntWalk.i64_in _ (by omega)
            have v3 : ((a : Int) + (n : Int) - 1).tmod (n : Int) = (f : Int) := by rw [Int.tmod_eq_emod_of_nonneg (by omega)]; exact m1
            have v4 : ¬ n = 0 := by omega
            have v5 : ((n : Int) == 0) = false := beq_eq_false_iff_ne.2 (by omega)
            have v6 : (f : Int) < (n : Int) := by omega
            have v7 : ((b : Int) - 1).toNat = b - 1 := by omega
            have v8 : IntKind.i64.wrap ((b : Int) - 1) = (b : Int) - 1 := IntWalk.i64_in _ (by omega)
            have v9 : (1 : Int) ≤ (b : Int) := by omega
            have u1 : (0 : Int) ≤ (b : Int) - 1 := by omega
            have u2 : (b : Int) - 1 < (n : Int) := by omega
            have u3 : (0 : Int) ≤ (f : Int) := by omega
            have hne := near_at Hpol.out (a := a) (b := b) (f := f) (by rw [← Hn.out]; exact hf) hab (by rw [← Hn.out]; exact hbl)
            have sf := nbB_sm (allG_at (polB_iff.1 Hpol.out).2.1 (show f < l.length by rw [← Hn.out]; exact hfn))
            have sb := nbB_sm (allG_at (polB_iff.1 Hpol.out).2.1 (show b - 1 < l.length by rw [← Hn.out]; omega))
            have HC := Lib.hid (fun w => spec_nbNear (l.getD f (0, 0)).1 (l.getD f (0, 0)).2 (l.getD (b - 1) (0, 0)).1 (l.getD (b - 1) (0, 0)).2 w sf.1 sf.2 sb.1 sb.2)
            rw [hne] at HC
            clear hne sf sb hc hA ho hb hM hob hf
            generalize (l.getD f (0, 0)).1 = x at *
            generalize (l.getD f (0, 0)).2 = y at *
            generalize (l.getD (b - 1) (0, 0)).1 = u at *
            generalize (l.getD (b - 1) (0, 0)).2 = v at *
            go_upto_region 11 with fail
            go_cut [8, 9] (fun s8 s9 wx => ∃ g8 g9 : Nat, s8 = .pointer (some ⟨g8, 0, none⟩) ∧ s9 = .pointer (some ⟨g9, 0, none⟩) ∧ Bx2 wx g8 x y ∧ Bx2 wx g9 u v ∧ Below wr.heap.size wr wx)
            case first =>
              go_region
              all_goals go_wp2_with fail
              all_goals go_meet
              all_goals first
                | exact ⟨wr.heap.size, wr.heap.size + 1, rfl, rfl, twoA _ _ _ _ _ _ _, twoB _ _ _ _ _ _ _, (below_two _ _ _).drew⟩
                | exact ⟨wr.heap.size + 1, wr.heap.size, rfl, rfl, twoB _ _ _ _ _ _ _, twoA _ _ _ _ _ _ _, (below_two _ _ _).drew⟩
            case rest =>
              obtain ⟨g8, g9, rfl, rfl, X8, X9, hdw⟩ := hcut
              obtain ⟨w5, hw5⟩ : ∃ w5, w5 = wc := ⟨_, rfl⟩
              subst hw5
              have o5 := own_kept Ho.out hdw
              have b5 := below_kept Hb.out (Nat.le_refl _) hdw
              have O5 := Lib.hid o5
              have B5 := Lib.hid b5
              have HX8 := Lib.hid X8
              have HX9 := Lib.hid X9
              obtain ⟨⟨s0, s1⟩, _, _⟩ := id X8
              obtain ⟨⟨t0, t1⟩, _, _⟩ := id X9
              have y8 := X8.lt
              have y9 := X9.lt
              clear hdw o5 b5 X8 X9 p0 p1 q0 q1 hbw v1 v2 v3 v4 v5 v6 v7 v8 v9 u1 u2 u3 m1 Ho Hb Hob hz
              by_cases hd : (b : Int) - (a : Int) ≤ (n : Int) - 2
              · have hdb : dB n a b = true := dB_iff.2 ⟨hn3, hn12, hbl, hab, by omega⟩
                cases hx : eN l ((a : Int), (b : Int))
                · have hob : oN l n a b = false := by unfold oN; rw [hdb, hx]; rfl
                  have hst : M = L ++ prs a (oN l n a) (b + 1) := by rw [prs_no hob]; exact HM.out
                  have Hst := Lib.hid hst
                  rw [hx] at HC
                  clear hx hob hst HM hdb
                  go_wp2_with fail
                  refine (HC.out _).mono ?_
                  rintro e w6 ⟨rfl, hb6⟩
                  have o6 := Lib.hid (own_kept O5.out hb6)
                  have b6 := Lib.hid (below_kept B5.out (Nat.le_refl _) hb6)
                  clear hb6 s0 s1 t0 t1 HC O5 B5
                  go_wp2
                  go_roundw
                  case rel => exact ⟨b + 1, M, A2, c2, by omega, .inl (by omega), Hst.out, by go_num, rfl, o6.out, b6.out⟩
                  case measure => simp [intOf]; omega
                · have hob : oN l n a b = true := by unfold oN; rw [hdb, hx]; rfl
                  have hst : M ++ [((a : Int), (b : Int))] = L ++ prs a (oN l n a) (b + 1) := by rw [prs_yes hob, ← List.append_assoc, HM.out]
                  have Hst := Lib.hid hst
                  rw [hx] at HC
                  clear hx hob hst HM hdb
                  go_wp2_with fail
                  refine (HC.out _).mono ?_
                  rintro e w6 ⟨rfl, hb6⟩
                  have o6 := own_kept O5.out hb6
                  have b6 := below_kept B5.out (Nat.le_refl _) hb6
                  have hz6 := b6.size
                  have own2 := o6.alloc (.cells #[.int .i64 (a : Int), .int .i64 (b : Int)] 83)
                  have hb2 := b6.alloc hz6 (.cells #[.int .i64 (a : Int), .int .i64 (b : Int)] 83)
                  have hb7 := hb2.size
                  have Hob6 := Lib.hid o6.lt
                  clear hb6 s0 s1 t0 t1 HC O5 B5 o6 b6
                  go_wp2_with (first
                    | (at_builtin; refine append1Dn _ rfl _ _ rfl w.heap.size (.slice A2 M.length c2) M.length M rfl rfl own2 w6.heap.size (a : Int) (b : Int) rfl ?c1 ?c2 ?c3 hb7 ?_; (case c1 => simp [go_sem]); (case c2 => simp [go_sem]); (case c3 => omega); intro A3 c3 w3 own3 hg3))
                  have hb8 := hb2.grown hg3 hb7 (fun j hj => (Hob6.out j hj).1)
                  have hlen : M.length + 1 = (M ++ [((a : Int), (b : Int))]).length := by simp
                  rw [hlen] at own3 ⊢
                  rw [Hst.out] at own3 ⊢
                  clear hg3 hb2 own2 hlen
                  generalize hMM : L ++ prs a (oN l n a) (b + 1) = MM at *
                  have HMM := Lib.hid hMM
                  clear hMM
                  go_wp2
                  go_roundw
                  case rel => exact ⟨b + 1, MM, A3, c3, by omega, .inl (by omega), HMM.out.symm, by go_num, rfl, own3, hb8⟩
                  case measure => simp [intOf]; omega
              · have hdb : dB n a b = false := by
                  cases hh : dB n a b
                  · rfl
                  · have := dB_iff.1 hh; omega
                have hob : oN l n a b = false := by unfold oN; rw [hdb]; rfl
                have hst : M = L ++ prs a (oN l n a) (b + 1) := by rw [prs_no hob]; exact HM.out
                have Hst := Lib.hid hst
                clear hdb hob hst HM HC
                go_wp2
                go_roundw
                case rel => exact ⟨b + 1, M, A2, c2, by omega, .inl (by omega), Hst.out, by go_num, rfl, O5.out, B5.out⟩
                case measure => simp [intOf]; omega
          · have he : M = rws (oN l n) n (a + 1) := by rw [rws_succ, hM, Hs1.out, prs_end (n := n) (fun b hb => oN_low hb) (fun b hb => oN_high hb) (by omega)]
            have He := Lib.hid he
            have Ho := Lib.hid ho
            have Hb := Lib.hid hb
            clear he ho hb hM
            go_wp2
            go_roundw
            case rel => exact ⟨a + 1, M, A2, c2, by omega, He.out, by go_num, rfl, Ho.out, Hb.out⟩
            case measure => simp [intOf]; omega
      · obtain rfl : a = n := by omega
        have hE : RetD w R true (.returned (.tuple #[.slice A' L.length c', .bool true])) w0 := by
          rw [HR.out, ← hL]
          exact ⟨A', c', rfl, ho, hb⟩
        have HE := Lib.hid hE
        clear hE ho hb hL
        go_wp2
        go_ret2
        exact HE.out
end Go.Proofs.Ytaifgfmkkgndkab
