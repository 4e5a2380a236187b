/- TermsOf: the model's and the program's contract, and the law's walk. -/
import Derived.Test.YtkekjcfhkecggabTmsM
import Derived.Test.YtkekjcfhkecggabPutA
import Derived.Deep.RegionLaw
import Derived.Test.YtkekjcfhkecggabTermsOfC
namespace Go.Proofs.Ytkekjcfhkecggab
set_option linter.unusedVariables false
open Go.RowKit

theorem SlI.dropIf {w : World} {B : Nat} {A : Option Addr} {l : List Int} {n c k : Nat} (h : SlI w B A l) (hn : l.length = n) (hk : k ≤ n) (hc : n ≤ c) : SlI w B (if c = k then A else (A.map fun a => ⟨a.block, a.off + k, a.spot⟩)) (l.drop k) := fun h0 => by
  have hl : k < l.length := by simp at h0; omega
  obtain ⟨b, off, rfl, hb, hcell⟩ := h (by omega)
  rw [if_neg (by omega)]
  refine ⟨b, off + k, rfl, hb, fun j hj => ?_⟩
  have hj2 : k + j < l.length := by simp at hj; omega
  have e : (l.drop k).getD j 0 = l.getD (k + j) 0 := by simp [List.getD_eq_getElem?_getD]
  rw [e, show off + k + j = off + (k + j) by omega]
  exact hcell (k + j) hj2
theorem small_drop_bd {l : List Int} (h : Small l) (k j : Nat) (hj : j ≤ l.length - k) : Bd j (prodL ((l.drop k).take j)) := prod_bd (l.drop k) (h.drop k) j (by simp; omega)

/-- what a function gives back that makes a list alone, its length told -/
def GivN (w : World) (L : List Int) (e : Ending) (w' : World) : Prop :=
  ∃ A c n, e = .returned (.slice A n c) ∧ L.length = n ∧ w'.ownsRow w.heap.size 3 1 (.slice A n c) n (ics L) ∧ Below w.heap.size w w'

set_option maxRecDepth 100000 in
set_option maxHeartbeats 3200000 in
theorem spec_ctTerms (A : Option Addr) (n c B : Nat) (l : List Int) (hn : l.length = n) (n10 : n ≤ 10) (hlc : n ≤ c) (hsm : Small l) : ∀ (m k : Nat) (p : Int) (w : World), n ≤ k + m → k ≤ n → Bd k p → SlI w B A l → B ≤ w.heap.size →
    Calls Try.prog 48 #[.slice A n c, .int .i64 k, .int .i64 p] w (GivN w (tms (l.drop k) p)) := by
  intro m
  induction m using Nat.strongRecOn with
  | _ m ih =>
  intro k p w hkm hkn hp h hB
  have Hn := Lib.hid hn
  have Hsm := Lib.hid hsm
  have Hp := Lib.hid hp
  have H := Lib.hid h
  have Ih := Lib.hid ih
  have Hlc := Lib.hid hlc
  have k0 : (0 : Int) ≤ (k : Int) := by omega
  have k1 : (k : Int) ≤ (n : Int) := by omega
  have k2 : (n : Int) ≤ (c : Int) := by omega
  clear hn hsm hp h ih
  have hpart : ∀ (A2 : Option Addr) (c2 : Nat), SlI w B A2 (l.drop k) → (fun _ : Nat => True) 0 := fun _ _ _ => trivial
  clear hpart
  rcases Nat.lt_or_ge k n with hlt | hge
  · obtain ⟨b, off, rfl, hbB, hc⟩ := H.out (by rw [Hn.out]; omega)
    have kc : ¬ c = k := by omega
    have Hd := Lib.hid (H.out.cutAt k)
    have Hdl : Hid ((l.drop k).length = n - k) := Lib.hid (by rw [List.length_drop, Hn.out])
    have nk : k ≤ n := by omega
    clear hc
    go_enter Try.func48, Try.ntmps48
    go_wp2
    go_loop [7, 9, 17] (fun a _ i => ∃ j : Nat, j ≤ n - k ∧ i = .int .i64 j ∧ a = .int .i64 (p * prodL ((l.drop k).take j))) (fun _ _ i => n - k - (intOf i).toNat)
    case atStart => exact ⟨0, Nat.zero_le _, rfl, by simp [prodL]⟩
    case round =>
      obtain ⟨j, hj, rfl, rfl⟩ := hrel
      by_cases hlt2 : j < n - k
      · obtain ⟨b2, off2, he, hbB2, hc2⟩ := Hd.out (by rw [Hdl.out]; omega)
        cases he
        have g0 := hc2 j (by rw [Hdl.out]; exact hlt2)
        have j0 : (0 : Int) ≤ (j : Int) := by omega
        have j1 : (j : Int) < ((n - k : Nat) : Int) := by omega
        have hst := prod_take (l.drop k) j (by rw [Hdl.out]; exact hlt2)
        have hx := (Hsm.out.drop k).get j (by rw [Hdl.out]; exact hlt2)
        have hb1 := (Hp.out.prod (small_drop_bd Hsm.out k j (by rw [Hn.out]; omega)))
        have hb2 := (hb1.mul hx).num (by omega)
        have hb3 := hb1.num (by omega)
        have hst2 : p * prodL ((l.drop k).take (j + 1)) = p * prodL ((l.drop k).take j) * (l.drop k).getD j 0 := by rw [hst, Int.mul_assoc]
        have Hst := Lib.hid hst2
        obtain ⟨_, _⟩ := hb2
        obtain ⟨_, _⟩ := hb3
        clear hst hst2 hb1 hc2
        generalize p * prodL ((l.drop k).take j) = q at *
        generalize (l.drop k).getD j 0 = x at *
        go_wp2
        go_round
        case rel => exact ⟨j + 1, by omega, by go_num, by rw [Hst.out]⟩
        case measure => simp [intOf]; omega
      · obtain rfl : j = n - k := by omega
        have hfull : (l.drop k).take (n - k) = l.drop k := by rw [List.take_of_length_le (by rw [Hdl.out]; exact Nat.le_refl _)]
        rw [hfull]
        have j1 : ¬ ((n - k : Nat) : Int) < ((n - k : Nat) : Int) := by omega
        have Hq := Lib.hid (show tms (l.drop k) p = [p * prodL (l.drop k)] ++ tmsL (l.drop k) p from rfl)
        generalize p * prodL (l.drop k) = q at *
        have HO : Hid ((w.alloc (.cells #[.int .i64 q] 3)).ownsRow w.heap.size 3 1 (.slice (some ⟨w.heap.size, 0, none⟩) 1 1) 1 (ics [q])) := Lib.hid ⟨rfl, .inr ⟨w.heap.size, 1, _, rfl, Nat.le_refl _, heap_alloc_new w _, Nat.le_refl _, by unfold maxLen; decide, rfl, rfl⟩⟩
        have HB0 : Hid (Below w.heap.size w (w.alloc (.cells #[.int .i64 q] 3))) := Lib.hid ((Below.refl _ _).alloc (Nat.le_refl _) _)
        clear hfull
        go_wp2
        go_loopw [2, 10, 11] (fun pr v i wr => ∃ (t d : Nat) (p' : Int) (L : List Int) (A' : Option Addr) (c' : Nat), k ≤ t ∧ t ≤ n ∧ i = .int .i64 t ∧ pr = .int .i64 p' ∧ v = .slice A' d c' ∧ L.length = d ∧ d ≤ 1000000 ∧ Bd t p' ∧ L ++ tmsL (l.drop t) p' = [q] ++ tmsL (l.drop k) p ∧ wr.ownsRow w.heap.size 3 1 (.slice A' d c') d (ics L) ∧ Below w.heap.size w wr) (fun _ _ i _ => n - (intOf i).toNat)
        case atStart => exact ⟨k, 1, p, [q], _, 1, Nat.le_refl _, hkn, rfl, rfl, rfl, rfl, by omega, Hp.out, rfl, HO.out, HB0.out⟩
        case round =>
          clear HO HB0
          obtain ⟨t, d, p', L, A', c', hkt, htn, rfl, rfl, rfl, hLd, hd, hbd, heq, ho, hb⟩ := hrel
          obtain ⟨w0, hw0⟩ : ∃ w0, w0 = wr := ⟨_, rfl⟩
          subst hw0
          have hsz := hb.size
          by_cases hlt3 : t + 1 < n
          · have t0 : (0 : Int) ≤ (t : Int) := by omega
            have t1 : (t : Int) < (n : Int) := by omega
            have t2 : (t : Int) + 1 < (n : Int) := by omega
            have t3 : (t : Int) ≤ 10 := by omega
            have hl3 : t + 1 < l.length := by rw [Hn.out]; exact hlt3
            have hst := tmsL_step p' hl3
            have hcall := Ih.out (n - (t + 2)) (by omega) (t + 2) (-p') w0 (by omega) (by omega) (hbd.neg.mono (by omega)) (H.out.below (hb.mono hB)) (Nat.le_trans hB hb.size)
            have ec : ((t + 2 : Nat) : Int) = (t : Int) + 2 := by omega
            rw [ec] at hcall
            have hlen2 : (tms (l.drop (t + 2)) (-p')).length ≤ 1024 := by
              have h1 := tms_len 10 (l.drop (t + 2)) (-p') (by rw [List.length_drop, Hn.out]; omega)
              have e : (2 : Nat) ^ 10 = 1024 := by decide
              unfold tms
              rw [List.length_cons]
              omega
            have hpn := (hbd.num (by omega))
            obtain ⟨pn1, pn2⟩ := hpn
            have hx := Hsm.out.get t (by omega)
            have hbd2 := hbd.mul hx
            obtain ⟨pm1, pm2⟩ := hbd2.num (by omega)
            have hs0 := H.out.below (hb.mono hB)
            obtain ⟨b3, off3, he3, hbB3, hc3⟩ := hs0 (by omega)
            cases he3
            have g0 := hc3 t (by omega)
            have hdd : d ≤ 1000000 - 2000 ∨ 1000000 - 2000 < d := by omega
            have heq2 : (L ++ tms (l.drop (t + 2)) (-p')) ++ tmsL (l.drop (t + 1)) (p' * l.getD t 0) = [q] ++ tmsL (l.drop k) p := by rw [List.append_assoc, ← hst]; exact heq
            have hlim : L.length + (tms (l.drop (t + 2)) (-p')).length ≤ 1024 := by
              have h1 := congrArg List.length heq2
              have h2 := tms_len 10 (l.drop k) p (by rw [List.length_drop, Hn.out]; omega)
              have e : (2 : Nat) ^ 10 = 1024 := by decide
              simp only [List.length_append, List.length_cons, List.length_nil] at h1
              omega
            have Hcall := Lib.hid hcall
            have Heq2 := Lib.hid heq2
            have Hlim := Lib.hid hlim
            have Hbd2 := Lib.hid hbd2
            have Ho := Lib.hid ho
            have Hb := Lib.hid hb
            have HLd := Lib.hid hLd
            have Hob := Lib.hid ho.lt
            clear hst hcall ec hbd hbd2 hs0 hc3 hdd heq heq2 hlim ho hb hLd hlen2 hl3 hx
            generalize tms (l.drop (t + 2)) (-p') = T at *
            generalize l.getD t 0 = x at *
            go_wp2_with fail
            refine Hcall.out.mono ?_
            rintro e w2 ⟨A2, c2, n2, rfl, hn2, o2, b2⟩
            have ho2 := own_kept Ho.out b2
            have hb2 := below_kept Hb.out (Nat.le_refl _) b2
            have hs2 := SlI.of_own (l := T) o2
            have Ho2 := Lib.hid ho2
            have Hb2 := Lib.hid hb2
            have Hs2 := Lib.hid hs2
            have Hn2 := Lib.hid hn2
            have l1 : n2 ≤ 1000000 := by have := Hlim.out; omega
            have l2 : d ≤ 1000000 := hd
            have l3 : d + n2 ≤ 1000000 := by have := Hlim.out; have := HLd.out; omega
            have g2 := cell_kept b2 g0
            clear ho2 hb2 hs2 hn2 o2 b2 g0
            go_wp2_with (at_builtin; refine wpList_appendNI _ rfl _ _ rfl w.heap.size (.slice A' d c') d L HLd.out rfl Ho2.out A2 n2 c2 T _ (d + n2) rfl rfl Hn2.out Hs2.out l2 l1 Hb2.out.size ?_; intro A7 c7 w7 o7 g7
                         have g9 := g7.cell g2 (fun e => by
                           have h1 := (Hob.out _ e.symm).1
                           dsimp only at h1
                           omega))
            have hb7 := below_grown Hb2.out g7 (Nat.le_refl _) (fun k hk => (Hob.out k hk).1)
            have Hb7 := Lib.hid hb7
            have O7 := Lib.hid o7
            have HL7 : Hid ((L ++ T).length = d + n2) := Lib.hid (by rw [List.length_append, HLd.out, Hn2.out])
            clear hb7 o7 g7 g9
            go_wp2
            go_roundw
            case rel => exact ⟨t + 1, d + n2, p' * x, L ++ T, A7, c7, by omega, by omega, by go_num, rfl, rfl, HL7.out, l3, Hbd2.out, Heq2.out, O7.out, Hb7.out⟩
            case measure => simp [intOf]; omega
          · have hE : GivN w (tms (l.drop k) p) (.returned (.slice A' d c')) w0 := by
              rw [tmsL_end p' (by rw [Hn.out]; omega), List.append_nil, ← Hq.out] at heq
              subst heq
              exact ⟨A', c', d, rfl, hLd, ho, hb⟩
            have HE := Lib.hid hE
            have t2 : ¬ (t : Int) + 1 < (n : Int) := by omega
            clear hE heq ho hb hLd hbd
            go_wp2
            go_ret
            exact HE.out
  · obtain rfl : k = n := by omega
    have hE : GivN w (tms (l.drop k) p) (.returned (.slice (some ⟨w.heap.size, 0, none⟩) 1 1)) (w.alloc (.cells #[.int .i64 p] 3)) := by
      rw [List.drop_of_length_le (by rw [Hn.out]; exact Nat.le_refl _)]
      unfold tms
      rw [tmsL_nil]
      exact ⟨_, 1, 1, rfl, rfl, ⟨rfl, .inr ⟨w.heap.size, 1, _, rfl, Nat.le_refl _, heap_alloc_new w _, Nat.le_refl _, by unfold maxLen; decide, rfl, by simp [ics, prodL]⟩⟩, (Below.refl _ _).alloc (Nat.le_refl _) _⟩
    have HE := Lib.hid hE
    have k3 : ¬ (k : Int) + 1 < (k : Int) := by omega
    clear hE
    by_cases hc : c = k
    · subst hc
      cases A with
      | none =>
        go_enter Try.func48, Try.ntmps48
        go_wp2
        refine wp_loop_rounds 1 ?_
        rw [rounds_succ]
        go_wp2
        refine wp_loop_rounds 1 ?_
        rw [rounds_succ]
        go_wp2
        go_ret
        exact HE.out
      | some ad =>
        go_enter Try.func48, Try.ntmps48
        go_wp2
        refine wp_loop_rounds 1 ?_
        rw [rounds_succ]
        go_wp2
        refine wp_loop_rounds 1 ?_
        rw [rounds_succ]
        go_wp2
        go_ret
        exact HE.out
    · cases A with
      | none =>
        go_enter Try.func48, Try.ntmps48
        go_wp2
        refine wp_loop_rounds 1 ?_
        rw [rounds_succ]
        go_wp2
        refine wp_loop_rounds 1 ?_
        rw [rounds_succ]
        go_wp2
        go_ret
        exact HE.out
      | some ad =>
        go_enter Try.func48, Try.ntmps48
        go_wp2
        refine wp_loop_rounds 1 ?_
        rw [rounds_succ]
        go_wp2
        refine wp_loop_rounds 1 ?_
        rw [rounds_succ]
        go_wp2
        go_ret
        exact HE.out
end Go.Proofs.Ytkekjcfhkecggab
