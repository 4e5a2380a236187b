/- Part 4 of 8 of the proof of the law WordsTold, no condition: one text out of several, since a claim holds 60 files at most. -/
import Derived.Test.YtfkkbjbgjmaciaaWordsToldP3
import Derived.Laws.DeepStrings4
import Derived.WalkSpells
import Derived.Deep.DeepCutAuto
import Derived.Deep.Cut
import Derived.Deep.RegionHeld3
/- The cursor's choices: a number below another, one of a list; a list of terms. -/
namespace Go.Proofs.Ytfkkbjbgjmaciaa
set_option linter.unusedVariables false
open Go.RowKit

/-- behind what has turned block g and new ones -/
theorem grownC_new {w w1 w2 : World} {g : Nat} {row : Option Nat} (h : w.grownBy w1 (some g)) (hg : w1.grownBy w2 row) (hr : ∀ k, row = some k → w.heap.size ≤ k) : w.grownBy w2 (some g) :=
  ⟨hg.os.trans h.os, hg.tape.trans h.tape, hg.output.trans h.output, Nat.le_trans h.size hg.size, fun k hk hne => (hg.block k (Nat.lt_of_lt_of_le hk h.size) (fun e => by have := hr k e.symm; omega)).trans (h.block k hk hne)⟩
theorem grownC_below {w w1 w2 : World} {g : Nat} (h : w.grownBy w1 (some g)) (hb : Below w1.heap.size w1 w2) : w.grownBy w2 (some g) :=
  ⟨hb.os.trans h.os, hb.tape.trans h.tape, hb.output.trans h.output, Nat.le_trans h.size hb.size, fun k hk hne => (hb.block k (Nat.lt_of_lt_of_le hk h.size)).trans (h.block k hk hne)⟩
/-- a choice: what it tells, the cursor behind it -/
def Chosen (w : World) (g N : Nat) (P : Int → Prop) (e : Ending) (w' : World) : Prop := ∃ r : Int, e = .returned (.int .i64 r) ∧ P r ∧ Cur w' g N ∧ w.grownBy w' (some g)

set_option maxRecDepth 100000 in
set_option maxHeartbeats 1600000 in
theorem spec_pick (g N : Nat) (m : Int) (w : World) (h : Cur w g N) (hN : N ≤ 100000000000) (hm : m ≤ 1000000) :
    Calls Try.prog 107 #[.pointer (some ⟨g, 0, none⟩), .int .i64 m] w (Chosen w g (N + 2) fun r => 0 ≤ r ∧ (r = 0 ∨ r < m)) := by
  by_cases h1 : m ≤ 1
  · have HE : Hid (Chosen w g (N + 2) (fun r => 0 ≤ r ∧ (r = 0 ∨ r < m)) (.returned (.int .i64 0)) w) := Lib.hid ⟨0, rfl, ⟨by omega, .inl rfl⟩, h.more (by omega), World.grownBy.refl w _⟩
    clear h
    go_enter Try.func107, Try.ntmps107
    go_wp2
    go_ret
    exact HE.out
  · have HN := Lib.hid (spec_next g N w h (by omega))
    have HE : Hid (∀ (r : Int) (w' : World), 0 ≤ r → Cur w' g (N + 2) → w.grownBy w' (some g) → Chosen w g (N + 2) (fun r => 0 ≤ r ∧ (r = 0 ∨ r < m)) (.returned (.int .i64 (r % m))) w') := Lib.hid fun r w' hr hc hg => ⟨r % m, rfl, ⟨Int.emod_nonneg _ (by omega), .inr (Int.emod_lt_of_pos _ (by omega))⟩, hc, hg⟩
    have m0 : m ≠ 0 := by omega
    clear h
    go_enter Try.func107, Try.ntmps107
    go_wp2_with fail
    refine HN.out.mono ?_
    rintro e w1 ⟨r, rfl, ⟨r0, r1⟩, hc, hg⟩
    clear HN
    by_cases h2 : 200 < m
    · have HN2 := Lib.hid (spec_next g (N + 1) w1 hc (by omega))
      have Hg := Lib.hid hg
      clear hc hg
      go_wp2_with fail
      refine HN2.out.mono ?_
      rintro e w2 ⟨r2, rfl, ⟨r20, r21⟩, hc2, hg2⟩
      have x0 : 0 ≤ r * 256 + r2 := by omega
      have hlt := Int.emod_lt_of_pos (r * 256 + r2) (show 0 < m by omega)
      have hge := Int.emod_nonneg (r * 256 + r2) m0
      have HF := Lib.hid (HE.out _ _ x0 hc2 (Hg.out.trans hg2))
      have hw : IntKind.i64.wrap ((r * 256 + r2) % m) = (r * 256 + r2) % m := IntWalk.i64_in _ (by omega)
      clear hc2 hg2 HN2 Hg HE
      go_wp2
      go_ret
      exact HF.out
    · have HF := Lib.hid (HE.out _ _ r0 (hc.more (by omega)) hg)
      have hlt := Int.emod_lt_of_pos r (show 0 < m by omega)
      have hge := Int.emod_nonneg r m0
      have hw : IntKind.i64.wrap (r % m) = r % m := IntWalk.i64_in _ (by omega)
      clear hc hg HE
      go_wp2
      go_ret
      exact HF.out
theorem spec_one (g N : Nat) (m : Int) (w : World) (h : Cur w g N) (hN : N ≤ 100000000000) (hm : m ≤ 1000000) :
    Calls Try.prog 115 #[.pointer (some ⟨g, 0, none⟩), .int .i64 m] w fun e w' => ∃ b : Bool, e = .returned (.bool b) ∧ Cur w' g (N + 2) ∧ w.grownBy w' (some g) := by
  have HN := Lib.hid (spec_pick g N m w h hN hm)
  clear h
  go_enter Try.func115, Try.ntmps115
  go_wp2_with fail
  refine HN.out.mono ?_
  rintro e w1 ⟨r, rfl, _, hc, hg⟩
  have HC := Lib.hid hc
  have HG := Lib.hid hg
  clear hc hg HN
  go_wp2
  go_ret
  exact ⟨_, rfl, HC.out, HG.out⟩
set_option maxRecDepth 100000 in
theorem spec_among (g N b n c : Nat) (l : List Int) (w : World) (h : Cur w g N) (hN : N ≤ 100000000000) (hn : l.length = n) (hb : b < w.heap.size) (hbg : b ≠ g) (hcell : ∀ j, j < n → w.cell? ⟨b, j, none⟩ = some (.int .i64 (l.getD j 0))) (h0 : 0 < n) (hl : n ≤ 1000) :
    Calls Try.prog 105 #[.pointer (some ⟨g, 0, none⟩), .slice (some ⟨b, 0, none⟩) n c] w (Chosen w g (N + 2) fun r => r ∈ l) := by
  have HN := Lib.hid (spec_pick g N n w h hN (by omega))
  have HS := Lib.hid hcell
  have Hn := Lib.hid hn
  clear h hcell hn
  go_enter Try.func105, Try.ntmps105
  go_wp2_with fail
  refine HN.out.mono ?_
  rintro e w1 ⟨r, rfl, ⟨r0, r1⟩, hc, hg⟩
  obtain ⟨j, rfl⟩ := Int.eq_ofNat_of_zero_le r0
  have hj : j < n := by omega
  have hji : (j : Int) < (n : Int) := by omega
  have g0 : w1.cell? ⟨b, j, none⟩ = some (.int .i64 (l.getD j 0)) := by
    rw [← HS.out j hj]
    exact World.cell?_of_block (w := w) (hg.block b hb (fun e => hbg (by injection e)))
  have HE : Hid (Chosen w g (N + 2) (fun r => r ∈ l) (.returned (.int .i64 (l.getD j 0))) w1) := Lib.hid ⟨_, rfl, by rw [List.getD_eq_getElem?_getD, List.getElem?_eq_getElem (by rw [Hn.out]; exact hj)]; exact List.getElem_mem _, hc, hg⟩
  clear hc hg HN HS r1 Hn
  generalize l.getD j 0 = x at *
  go_wp2
  go_ret
  exact HE.out

/-- the length in a slice's value -/
def lenW : Value → Nat
  | .slice _ m _ => m
  | _ => 0
/-- a list that grows while choices are made -/
def Grows (w : World) (g N : Nat) (v : Value) (k : Nat) (wr : World) : Prop :=
  ∃ (A : Option Addr) (c : Nat) (l : List Int), v = .slice A l.length c ∧ l.length = k ∧ wr.ownsRow w.heap.size 3 1 (.slice A l.length c) l.length (ics l) ∧ Cur wr g N ∧ w.grownBy wr (some g)
theorem Grows.push {w wr w3 : World} {g N N' : Nat} {A : Option Addr} {c : Nat} {l : List Int} (hg : w.grownBy wr (some g)) (hc : Cur wr g N') (hN : N' ≤ N) (hlt : g < w.heap.size) (x : Int)
    (ho : wr.ownsRow w.heap.size 3 1 (.slice A l.length c) l.length (ics l)) {A3 : Option Addr} {c3 : Nat} (o3 : w3.ownsRow w.heap.size 3 1 (.slice A3 (l.length + 1) c3) (l.length + 1) (ics (l ++ [x]))) (g3 : (wr.alloc (.cells #[.int .i64 x] 3)).grownBy w3 (Value.slice A l.length c).ownBlock) :
    Grows w g N (.slice A3 (l.length + 1) c3) (l.length + 1) w3 := by
  have hr : ∀ k, (Value.slice A l.length c).ownBlock = some k → w.heap.size ≤ k := fun k hk => (ho.lt k hk).1
  have ha : Below wr.heap.size wr (wr.alloc (.cells #[.int .i64 x] 3)) := below_box (Below.refl _ _) (Nat.le_refl _) _
  exact ⟨A3, c3, l ++ [x], by simp, by simp, by simpa using o3, ((hc.kept ha).far g3 (fun k hk => Nat.lt_of_lt_of_le hlt (hr k hk))).more hN, grownC_new (grownC_below hg ha) g3 hr⟩

/-- a list drawn: new, at most so long -/
def Drawn (w : World) (g N M : Nat) (e : Ending) (w' : World) : Prop :=
  ∃ (A : Option Addr) (c : Nat) (l : List Int), e = .returned (.slice A l.length c) ∧ l.length ≤ M ∧ w'.ownsRow w.heap.size 3 1 (.slice A l.length c) l.length (ics l) ∧ Cur w' g N ∧ w.grownBy w' (some g)
theorem Grows.drawn {w wr : World} {g N N' M k : Nat} {A : Option Addr} {n c : Nat} (h : Grows w g N (.slice A n c) k wr) (hk : k ≤ M) (hN : N ≤ N') : Drawn w g N' M (.returned (.slice A n c)) wr := by
  obtain ⟨A', c', l, e, hl, ho, hc, hg⟩ := h
  cases e
  exact ⟨A, c, l, rfl, by omega, ho, hc.more hN, hg⟩

set_option maxRecDepth 100000 in
set_option maxHeartbeats 12800000 in
theorem spec_terms (g N : Nat) (lo hi : Int) (w : World) (h : Cur w g N) (hN : N ≤ 10000000000) (h1 : -100 ≤ lo) (h2 : hi ≤ 100) (h3 : lo ≤ hi) :
    Calls Try.prog 113 #[.pointer (some ⟨g, 0, none⟩), .int .i64 lo, .int .i64 hi] w (Drawn w g (N + 100) 11) := by
  have HN := Lib.hid (spec_pick g N 8 w h (by omega) (by omega))
  have hgl := h.lt
  have hw1 : IntKind.i64.wrap (hi - lo) = hi - lo := IntWalk.i64_in _ (by omega)
  have hw2 : IntKind.i64.wrap (hi - lo + 1) = hi - lo + 1 := IntWalk.i64_in _ (by omega)
  clear h
  go_enter Try.func113, Try.ntmps113
  go_wp2_with fail
  refine HN.out.mono ?_
  rintro e w1 ⟨r, rfl, ⟨r0, r1⟩, hc, hg⟩
  obtain ⟨p, rfl⟩ := Int.eq_ofNat_of_zero_le r0
  have p7 : p ≤ 7 := by omega
  have HG : Hid (Grows w g (N + 2) (.slice none 0 0) 0 w1) := Lib.hid ⟨none, 0, [], rfl, rfl, World.ownsRow_nil _ _ _ _, hc, hg⟩
  clear hc hg HN r0 r1
  go_wp2
  go_loopw [7, 8] (fun v k wr => ∃ d q : Nat, d + q = p ∧ k = .int .i64 q ∧ Grows w g (N + 2 + 2 * d) v d wr) (fun _ k _ => (intOf k).toNat)
  case atStart => exact ⟨0, p, by omega, rfl, HG.out⟩
  case round =>
    clear HG
    obtain ⟨d, q, hdq, rfl, A, c, l, rfl, hl, ho, hc, hg⟩ := hrel
    subst hl
    by_cases hq : 0 < q
    · have q0 : (0 : Int) < (q : Int) := by omega
      have q7 : (q : Int) ≤ 7 := by omega
      have HP := Lib.hid (spec_pick g (N + 2 + 2 * l.length) (hi - lo + 1) wr hc (by omega) (by omega))
      have Ho := Lib.hid ho
      have Hg := Lib.hid hg
      clear hc ho hg
      go_wp2_with fail
      refine HP.out.mono ?_
      rintro e w2 ⟨x, rfl, ⟨x0, x1⟩, hc2, hg2⟩
      have o2 := own_far Ho.out hg2 (fun k hk e => by have := (Ho.out.lt k hk).1; injection e with e; omega)
      have g2 := Hg.out.trans hg2
      have hwx : IntKind.i64.wrap (lo + x) = lo + x := IntWalk.i64_in _ (by omega)
      have own2 := o2.alloc (.cells #[.int .i64 (lo + x)] 3)
      have Hc2 := Lib.hid hc2
      have HG2 := Lib.hid g2
      have HO2 := Lib.hid o2
      have hz := g2.size
      clear hc2 hg2 HP Ho Hg g2 o2
      go_wp2_with (at_builtin; refine append1I _ rfl _ _ rfl w.heap.size (.slice A l.length c) l rfl own2 w2.heap.size (lo + x) rfl ?c1 ?c2 ?c3 ?_; (case c1 => simp [go_sem]); (case c2 => omega); (case c3 => simp; omega); intro A3 c3 w3 own3 hg3; (have hG := Grows.push (N := N + 2 + 2 * (l.length + 1)) HG2.out Hc2.out (by omega) hgl (lo + x) HO2.out own3 hg3))
      have HG := Lib.hid hG
      clear hG own3 hg3 own2 HO2 HG2 Hc2
      go_wp2
      go_roundw
      case rel => exact ⟨l.length + 1, q - 1, by omega, by go_num, HG.out⟩
      case measure => simp [intOf]; omega
    · have q0 : ¬ (0 : Int) < (q : Int) := by omega
      have HP := Lib.hid (spec_pick g (N + 2 + 2 * l.length) 14 wr hc (by omega) (by omega))
      have Ho := Lib.hid ho
      have Hg := Lib.hid hg
      have hl7 : l.length ≤ 7 := by omega
      clear hc ho hg hw1 hw2 hdq
      go_wp2_with fail
      refine HP.out.mono ?_
      rintro e w2 ⟨x, rfl, ⟨x0, x1⟩, hc2, hg2⟩
      have o2 := own_far Ho.out hg2 (fun k hk e => by have := (Ho.out.lt k hk).1; injection e with e; omega)
      have g2 := Hg.out.trans hg2
      have hz := g2.size
      clear hg2 HP Ho Hg
      by_cases hx0 : x = 0
      · subst hx0
        have hba := (Below.refl w2.heap.size w2).alloc (Nat.le_refl _) (.cells #[.int .i64 30, .int .i64 31, .int .i64 (-30), .int .i64 (-9223372036854775808)] 3)
        have HA := Lib.hid (spec_among g (N + 2 + 2 * l.length + 2) w2.heap.size 4 4 [30, 31, -30, -9223372036854775808] _ (hc2.kept hba) (by omega) rfl (by simp) (by have := hc2.lt; omega) (fun j hj => by
          match j, hj with
          | 0, _ => simp [go_sem]
          | 1, _ => simp [go_sem]
          | 2, _ => simp [go_sem]
          | 3, _ => simp [go_sem]) (by omega) (by omega))
        have o3 := own_kept o2 hba
        have g3 := grownC_below g2 hba
        have Ho3 := Lib.hid o3
        have Hg3 := Lib.hid g3
        clear o2 g2 hc2 hba o3 g3
        go_wp2_with fail
        refine HA.out.mono ?_
        rintro e w4 ⟨y, rfl, _, hc4, hg4⟩
        have o4 := own_far Ho3.out hg4 (fun k hk e => by have := (Ho3.out.lt k hk).1; injection e with e; omega)
        have g4 := Hg3.out.trans hg4
        have own2 := o4.alloc (.cells #[.int .i64 y] 3)
        have Hc4 := Lib.hid hc4
        have HG4 := Lib.hid g4
        have HO4 := Lib.hid o4
        have hz4 := g4.size
        clear hc4 hg4 HA Ho3 Hg3 g4 o4
        go_wp2_with (at_builtin; refine append1I _ rfl _ _ rfl w.heap.size (.slice A l.length c) l rfl own2 w4.heap.size y rfl ?c1 ?c2 ?c3 ?_; (case c1 => simp [go_sem]); (case c2 => omega); (case c3 => simp; omega); intro A3 c3 w3 own3 hg3; (have hG := Grows.push (N := N + 100) HG4.out Hc4.out (by omega) hgl y HO4.out own3 hg3))
        have HD := Lib.hid (hG.drawn (M := 11) (by omega) (Nat.le_refl _))
        clear hG own3 hg3 own2 HO4 HG4 Hc4
        go_wp2
        go_ret
        exact HD.out
      · by_cases hx1 : x = 1
        · subst hx1
          have HG : Hid (Grows w g (N + 20 + 2 * l.length) (.slice A l.length c) l.length w2) := Lib.hid ⟨A, c, l, rfl, rfl, o2, hc2.more (by omega), g2⟩
          clear o2 hc2 g2 hz hx0 x0 x1
          go_wp2
          go_loopw [7] (fun v wr => ∃ d : Nat, d ≤ 11 ∧ Grows w g (N + 20 + 2 * d) v d wr) (fun v _ => 12 - lenW v)
          case atStart => exact ⟨l.length, by omega, HG.out⟩
          case round =>
            clear HG hl7 q0
            obtain ⟨d, hd, A, c, l, rfl, hl, ho, hc, hg⟩ := hrel
            subst hl
            have HP := Lib.hid (spec_pick g (N + 20 + 2 * l.length) 2 wr hc (by omega) (by omega))
            have Ho := Lib.hid ho
            have Hg := Lib.hid hg
            clear hc ho hg
            go_wp2_with fail
            refine HP.out.mono ?_
            rintro e w4 ⟨y, rfl, ⟨y0, y1⟩, hc4, hg4⟩
            have o4 := own_far Ho.out hg4 (fun k hk e => by have := (Ho.out.lt k hk).1; injection e with e; omega)
            have g4 := Hg.out.trans hg4
            have hz4 := g4.size
            clear hg4 HP Ho Hg
            by_cases hlt : (l.length : Int) < 10 + y
            · have own2 := o4.alloc (.cells #[.int .i64 2] 3)
              have Hc4 := Lib.hid hc4
              have HG4 := Lib.hid g4
              have HO4 := Lib.hid o4
              clear hc4 g4 o4
              go_wp2_with (at_builtin; refine append1I _ rfl _ _ rfl w.heap.size (.slice A l.length c) l rfl own2 w4.heap.size 2 rfl ?c1 ?c2 ?c3 ?_; (case c1 => simp [go_sem]); (case c2 => omega); (case c3 => simp; omega); intro A3 c3 w3 own3 hg3; (have hG := Grows.push (N := N + 20 + 2 * (l.length + 1)) HG4.out Hc4.out (by omega) hgl 2 HO4.out own3 hg3))
              have HG := Lib.hid hG
              clear hG own3 hg3 own2 HO4 HG4 Hc4
              go_wp2
              go_roundw
              case rel => exact ⟨l.length + 1, by omega, HG.out⟩
              case measure => simp [lenW]; omega
            · have HD : Hid (Drawn w g (N + 100) 11 (.returned (.slice A l.length c)) w4) := Lib.hid ⟨A, c, l, rfl, hd, o4, hc4.more (by omega), g4⟩
              clear o4 hc4 g4
              go_wp2
              go_ret
              exact HD.out
        · by_cases hx2 : x = 2
          · subst hx2
            have HG : Hid (Grows w g (N + 50) (.slice A l.length c) l.length w2) := Lib.hid ⟨A, c, l, rfl, rfl, o2, hc2.more (by omega), g2⟩
            clear o2 hc2 g2 hz hx0 hx1 x0 x1
            go_wp2
            go_loopw [7] (fun v wr => ∃ d : Nat, d ≤ 11 ∧ Grows w g (N + 50) v d wr) (fun v _ => 12 - lenW v)
            case atStart => exact ⟨l.length, by omega, HG.out⟩
            case round =>
              clear HG hl7 q0
              obtain ⟨d, hd, A, c, l, rfl, hl, ho, hc, hg⟩ := hrel
              subst hl
              have hz4 := hg.size
              by_cases hlt : (l.length : Int) < 10
              · have own2 := ho.alloc (.cells #[.int .i64 30] 3)
                have Hc4 := Lib.hid hc
                have HG4 := Lib.hid hg
                have HO4 := Lib.hid ho
                clear hc hg ho
                go_wp2_with (at_builtin; refine append1I _ rfl _ _ rfl w.heap.size (.slice A l.length c) l rfl own2 wr.heap.size 30 rfl ?c1 ?c2 ?c3 ?_; (case c1 => simp [go_sem]); (case c2 => omega); (case c3 => simp; omega); intro A3 c3 w3 own3 hg3; (have hG := Grows.push (N := N + 50) HG4.out Hc4.out (by omega) hgl 30 HO4.out own3 hg3))
                have HG := Lib.hid hG
                clear hG own3 hg3 own2 HO4 HG4 Hc4
                go_wp2
                go_roundw
                case rel => exact ⟨l.length + 1, by omega, HG.out⟩
                case measure => simp [lenW]; omega
              · have HD : Hid (Drawn w g (N + 100) 11 (.returned (.slice A l.length c)) wr) := Lib.hid ⟨A, c, l, rfl, hd, ho, hc.more (by omega), hg⟩
                clear ho hc hg
                go_wp2
                go_ret
                exact HD.out
          · have HD : Hid (Drawn w g (N + 100) 11 (.returned (.slice A l.length c)) w2) := Lib.hid ⟨A, c, l, rfl, by omega, o2, hc2.more (by omega), g2⟩
            have n0 : (x == 0) = false := by simpa using hx0
            have n1 : (x == 1) = false := by simpa using hx1
            have n2 : (x == 2) = false := by simpa using hx2
            clear o2 hc2 g2 hx0 hx1 hx2 x1
            go_wp2
            go_ret
            exact HD.out
end Go.Proofs.Ytfkkbjbgjmaciaa

/- The draws of texts: words, and texts that are spoilt. -/
namespace Go.Proofs.Ytfkkbjbgjmaciaa
set_option linter.unusedVariables false
open Go.RowKit

/-- a text drawn -/
def DrawnP (P : ByteArray → Prop) (w : World) (g N : Nat) (e : Ending) (w' : World) : Prop := ∃ s : ByteArray, e = .returned (.string s) ∧ P s ∧ Cur w' g N ∧ w.grownBy w' (some g)
def DrawnT (w : World) (g N M : Nat) (e : Ending) (w' : World) : Prop := DrawnP (fun s => s.size ≤ M) w g N e w'
set_option maxRecDepth 100000 in
theorem spec_of (P : ByteArray → Prop) (g N b n c : Nat) (l : List ByteArray) (w : World) (h : Cur w g N) (hN : N ≤ 100000000000) (hn : l.length = n) (hb : b < w.heap.size) (hbg : b ≠ g) (hcell : ∀ j, j < n → w.cell? ⟨b, j, none⟩ = some (.string (l.getD j ByteArray.empty))) (h0 : 0 < n) (hl : n ≤ 1000) (hM : ∀ s ∈ l, P s) :
    Calls Try.prog 163 #[.pointer (some ⟨g, 0, none⟩), .slice (some ⟨b, 0, none⟩) n c] w (DrawnP P w g (N + 2)) := by
  have HN := Lib.hid (spec_pick g N n w h hN (by omega))
  have HS := Lib.hid hcell
  have Hn := Lib.hid hn
  have HM := Lib.hid hM
  clear h hcell hn hM
  go_enter Try.func163, Try.ntmps163
  go_wp2_with fail
  refine HN.out.mono ?_
  rintro e w1 ⟨r, rfl, ⟨r0, r1⟩, hc, hg⟩
  obtain ⟨j, rfl⟩ := Int.eq_ofNat_of_zero_le r0
  have hj : j < n := by omega
  have hji : (j : Int) < (n : Int) := by omega
  have g0 : w1.cell? ⟨b, j, none⟩ = some (.string (l.getD j ByteArray.empty)) := by
    rw [← HS.out j hj]
    exact World.cell?_of_block (w := w) (hg.block b hb (fun e => hbg (by injection e)))
  have HE : Hid (DrawnP P w g (N + 2) (.returned (.string (l.getD j ByteArray.empty))) w1) := Lib.hid ⟨_, rfl, by rw [List.getD_eq_getElem?_getD, List.getElem?_eq_getElem (by rw [Hn.out]; exact hj)]; exact HM.out _ (List.getElem_mem _), hc, hg⟩
  clear hc hg HN HS r1 Hn HM
  generalize l.getD j ByteArray.empty = x at *
  go_wp2
  go_ret
  exact HE.out
theorem run_one {w : World} {g : Nat} {y : UInt8} (h : w.cell? ⟨g, 0, none⟩ = some (.int .u8 (y.toNat : Int))) : (convert 22 9 (.slice (some ⟨g, 0, none⟩) 1 1)).run Try.prog w = .ok (.string (bsL [y])) w :=
  run_convert_bytes_back w _ _ 5 ⟨g, 0, none⟩ 1 [y] Try.underlying22 (by kernel_rfl) (by kernel_rfl) (fun j hj => by
    match j, hj with
    | 0, _ => rw [Addr.add_zero', h]; rfl)
theorem byte_new (w : World) (y : UInt8) (t : TypeId) : (w.alloc (.cells #[.int .u8 (y.toNat : Int)] t)).cell? ⟨w.heap.size, 0, none⟩ = some (.int .u8 (y.toNat : Int)) := by simp [go_sem]
theorem size_cut (t : ByteArray) (i : Nat) (h : i ≤ t.size) : (t.extract 0 i).size = i ∧ (t.extract i t.size).size = t.size - i := by
  constructor <;> simp [ByteArray.size_extract] <;> omega
set_option maxRecDepth 100000 in
set_option maxHeartbeats 12800000 in
theorem spec_spoilt (g N M : Nat) (t u : ByteArray) (w : World) (h : Cur w g N) (hN : N ≤ 10000000000) (ht : t.size ≤ M) (hM : M ≤ 1000) (hu : 0 < u.size) (hu2 : u.size ≤ 1000) :
    Calls Try.prog 164 #[.pointer (some ⟨g, 0, none⟩), .string t, .string u] w (DrawnT w g (N + 20) (M + 2)) := by
  have HN := Lib.hid (spec_pick g N 2 w h (by omega) (by omega))
  clear h
  go_enter Try.func164, Try.ntmps164
  go_wp2_with fail
  refine HN.out.mono ?_
  rintro e w1 ⟨r, rfl, ⟨r0, r1⟩, hc, hg⟩
  obtain ⟨p, rfl⟩ := Int.eq_ofNat_of_zero_le r0
  have p1 : p ≤ 1 := by omega
  have hw1 : IntKind.i64.wrap (1 + (p : Int)) = ((p + 1 : Nat) : Int) := by rw [IntWalk.i64_in _ (by omega)]; omega
  have HC := Lib.hid hc
  have HG := Lib.hid hg
  clear hc hg HN r0 r1
  go_wp2
  go_loopw [1, 7] (fun v k wr => ∃ (q d : Nat) (s : ByteArray), d + q = p + 1 ∧ k = .int .i64 q ∧ v = .string s ∧ s.size ≤ M + d ∧ Cur wr g (N + 2 + 6 * d) ∧ w.grownBy wr (some g)) (fun _ k _ => (intOf k).toNat)
  case atStart => exact ⟨p + 1, 0, t, by omega, rfl, rfl, by omega, HC.out, HG.out⟩
  case round =>
    clear HC HG hw1 ht
    obtain ⟨q, d, s, hdq, rfl, rfl, hs, hc, hg⟩ := hrel
    by_cases hq : 0 < q
    · have q0 : (0 : Int) < (q : Int) := by omega
      have hwq : IntKind.i64.wrap ((q : Int) - 1) = ((q - 1 : Nat) : Int) := by rw [IntWalk.i64_in _ (by omega)]; omega
      by_cases hs0 : 0 < s.size
      · have s0 : (0 : Int) < (s.size : Int) := by omega
        have HP := Lib.hid (spec_pick g (N + 2 + 6 * d) s.size wr hc (by omega) (by omega))
        have Hg := Lib.hid hg
        clear hc hg
        go_wp2_with fail
        refine HP.out.mono ?_
        rintro e w2 ⟨x, rfl, ⟨x0, x1⟩, hc2, hg2⟩
        obtain ⟨i, rfl⟩ := Int.eq_ofNat_of_zero_le x0
        have hi : i < s.size := by omega
        have HP2 := Lib.hid (spec_pick g (N + 2 + 6 * d + 2) u.size w2 hc2 (by omega) (by omega))
        have Hg2 := Lib.hid (Hg.out.trans hg2)
        clear HP Hg hc2 hg2 x0 x1
        go_wp2_with fail
        refine HP2.out.mono ?_
        rintro e w3 ⟨x, rfl, ⟨x0, x1⟩, hc3, hg3⟩
        obtain ⟨j, rfl⟩ := Int.eq_ofNat_of_zero_le x0
        have hj : j < u.size := by omega
        have hji : (j : Int) < (u.size : Int) := by omega
        obtain ⟨w4, hw4⟩ : ∃ w4, w4 = w3.alloc (.cells #[.int .u8 ((u[j]'hj).toNat : Int)] 5) := ⟨_, rfl⟩
        have hcv : (convert 22 9 (.slice (some ⟨w3.heap.size, 0, none⟩) 1 1)).run Try.prog w4 = .ok (.string (bsL [u[j]'hj])) w4 := run_one (by rw [hw4]; exact byte_new _ _ _)
        have hba : Below w3.heap.size w3 w4 := by rw [hw4]; exact (Below.refl w3.heap.size w3).alloc (Nat.le_refl _) _
        have HP3 := Lib.hid (spec_pick g (N + 2 + 6 * d + 4) 3 w4 (hc3.kept hba) (by omega) (by omega))
        have Hg3 := Lib.hid (grownC_below (Hg2.out.trans hg3) hba)
        have Hw4 := Lib.hid hw4
        clear HP2 Hg2 hc3 hg3 x0 x1 hba
        rw [hw4] at hcv
        clear hw4
        have hy1 : (bsL [u[j]'hj]).size = 1 := bsL_size _
        generalize bsL [u[j]'hj] = y at *
        go_upto_region 6 with fail
        rw [← Hw4.out]
        clear Hw4 hcv
        go_wp2_with fail
        refine HP3.out.mono ?_
        rintro e w5 ⟨x, rfl, ⟨x0, x1⟩, hc5, hg5⟩
        have Hc5 := Lib.hid hc5
        have Hg5 := Lib.hid (Hg3.out.trans hg5)
        clear HP3 Hg3 hc5 hg5
        generalize ((u[j]'hj).toNat : Int) = b8 at *
        have i0 : (0 : Int) ≤ (i : Int) := by omega
        have i1 : (i : Int) ≤ (s.size : Int) := by omega
        have i2 : (i : Int) + 1 ≤ (s.size : Int) := by omega
        have i3 : IntKind.i64.wrap ((i : Int) + 1) = (i : Int) + 1 := IntWalk.i64_in _ (by omega)
        have i4 : ((i : Int) + 1).toNat = i + 1 := by omega
        have i5 : (0 : Int) ≤ (i : Int) + 1 := by omega
        have HCN : Hid (∀ z, Cur (w5.drewN z) g (N + 2 + 6 * (d + 1))) := Lib.hid fun z => (Hc5.out.more (by omega)).kept (below_drewN (Below.refl _ _) z)
        have HGN : Hid (∀ z, w.grownBy (w5.drewN z) (some g)) := Lib.hid fun z => grownC_drewN Hg5.out z
        have HS1 : Hid ((s.extract 0 i ++ y ++ s.extract i s.size).size ≤ M + (d + 1)) := Lib.hid (by simp [ByteArray.size_append, ByteArray.size_extract]; omega)
        have HS2 : Hid ((s.extract 0 i ++ y ++ s.extract (i + 1) s.size).size ≤ M + (d + 1)) := Lib.hid (by simp [ByteArray.size_append, ByteArray.size_extract]; omega)
        have HS3 : Hid ((s.extract 0 i ++ s.extract (i + 1) s.size).size ≤ M + (d + 1)) := Lib.hid (by simp [ByteArray.size_append, ByteArray.size_extract]; omega)
        clear hj hji Hc5 Hg5
        by_cases hx0 : x = 0
        · subst hx0
          go_wp2
          go_quiet (fail)
          go_wp2
          go_roundw
          case rel => exact ⟨q - 1, d + 1, _, by omega, by go_num, rfl, HS1.out, HCN.out _, HGN.out _⟩
          case measure => simp [intOf]; omega
        · by_cases hx1 : x = 1
          · subst hx1
            go_wp2
            go_quiet (fail)
            go_wp2
            go_roundw
            case rel => exact ⟨q - 1, d + 1, _, by omega, by go_num, rfl, HS2.out, HCN.out _, HGN.out _⟩
            case measure => simp [intOf]; omega
          · have e0 : (x == 0) = false := by simpa using hx0
            have e1 : (x == 1) = false := by simpa using hx1
            go_wp2
            go_quiet (fail)
            go_wp2
            go_roundw
            case rel => exact ⟨q - 1, d + 1, _, by omega, by go_num, rfl, HS3.out, HCN.out _, HGN.out _⟩
            case measure => simp [intOf]; omega
      · have s0 : ¬ (0 : Int) < (s.size : Int) := by omega
        have HR : Hid (DrawnT w g (N + 20) (M + 2) (.returned (.string s)) wr) := Lib.hid ⟨s, rfl, by omega, hc.more (by omega), hg⟩
        clear hc hg
        go_wp2
        go_ret
        exact HR.out
    · have q0 : ¬ (0 : Int) < (q : Int) := by omega
      have HR : Hid (DrawnT w g (N + 20) (M + 2) (.returned (.string s)) wr) := Lib.hid ⟨s, rfl, by omega, hc.more (by omega), hg⟩
      clear hc hg
      go_wp2
      go_ret
      exact HR.out
def lenB : Value → Nat
  | .string s => s.size
  | _ => 0
theorem below_row2 (w : World) (a b : ByteArray) : Below w.heap.size w (w.alloc (.cells #[.string a, .string b] 9)) := (Below.refl w.heap.size w).alloc (Nat.le_refl _) _
theorem below_row3 (w : World) (a b c : ByteArray) : Below w.heap.size w (w.alloc (.cells #[.string a, .string b, .string c] 9)) := (Below.refl w.heap.size w).alloc (Nat.le_refl _) _
theorem spec_of2 (g N : Nat) (a b : ByteArray) (w : World) (h : Cur w g N) (hN : N ≤ 100000000000) (ha : a.size ≤ 2) (hb : b.size ≤ 2) :
    Calls Try.prog 163 #[.pointer (some ⟨g, 0, none⟩), .slice (some ⟨w.heap.size, 0, none⟩) 2 2] (w.alloc (.cells #[.string a, .string b] 9)) (DrawnT (w.alloc (.cells #[.string a, .string b] 9)) g (N + 2) 2) :=
  spec_of (fun s => s.size ≤ 2) g N w.heap.size 2 2 [a, b] _ (h.kept (below_row2 w a b)) hN rfl (by simp) (by have := h.lt; omega) (fun j hj => by
    match j, hj with
    | 0, _ => simp [go_sem]
    | 1, _ => simp [go_sem]) (by omega) (by omega) (by intro s hs; simp at hs; rcases hs with rfl | rfl <;> assumption)
theorem spec_of3 (g N : Nat) (a b c : ByteArray) (w : World) (h : Cur w g N) (hN : N ≤ 100000000000) (ha : 1 ≤ a.size ∧ a.size ≤ 2) (hb : 1 ≤ b.size ∧ b.size ≤ 2) (hc : 1 ≤ c.size ∧ c.size ≤ 2) :
    Calls Try.prog 163 #[.pointer (some ⟨g, 0, none⟩), .slice (some ⟨w.heap.size, 0, none⟩) 3 3] (w.alloc (.cells #[.string a, .string b, .string c] 9)) (DrawnP (fun s => 1 ≤ s.size ∧ s.size ≤ 2) (w.alloc (.cells #[.string a, .string b, .string c] 9)) g (N + 2)) :=
  spec_of (fun s => 1 ≤ s.size ∧ s.size ≤ 2) g N w.heap.size 3 3 [a, b, c] _ (h.kept (below_row3 w a b c)) hN rfl (by simp) (by have := h.lt; omega) (fun j hj => by
    match j, hj with
    | 0, _ => simp [go_sem]
    | 1, _ => simp [go_sem]
    | 2, _ => simp [go_sem]) (by omega) (by omega) (by intro s hs; simp at hs; rcases hs with rfl | rfl | rfl <;> assumption)
set_option maxRecDepth 100000 in
set_option maxHeartbeats 12800000 in
theorem spec_word (g N : Nat) (w : World) (h : Cur w g N) (hN : N ≤ 2000000000) :
    Calls Try.prog 127 #[.pointer (some ⟨g, 0, none⟩)] w (DrawnT w g (N + 400) 50) := by
  have HN := Lib.hid (spec_pick g N 12 w h (by omega) (by omega))
  clear h
  go_enter Try.func127, Try.ntmps127
  go_wp2_with fail
  refine HN.out.mono ?_
  rintro e w1 ⟨r, rfl, ⟨r0, r1⟩, hc, hg⟩
  obtain ⟨p, rfl⟩ := Int.eq_ofNat_of_zero_le r0
  have p1 : p ≤ 11 := by omega
  have HC := Lib.hid hc
  have HG := Lib.hid hg
  clear hc hg HN r0 r1
  go_wp2
  go_loopw [3, 4] (fun v k wr => ∃ (q d : Nat) (s : ByteArray), d + q = p ∧ k = .int .i64 q ∧ v = .string s ∧ s.size ≤ 2 * d ∧ Cur wr g (N + 2 + 2 * d) ∧ w.grownBy wr (some g)) (fun _ k _ => (intOf k).toNat)
  case atStart => exact ⟨p, 0, _, by omega, rfl, rfl, by decide, HC.out, HG.out⟩
  case round =>
    clear HC HG
    obtain ⟨q, d, s, hdq, rfl, rfl, hs, hc, hg⟩ := hrel
    by_cases hq : 0 < q
    · have q0 : (0 : Int) < (q : Int) := by omega
      have hwq : IntKind.i64.wrap ((q : Int) - 1) = ((q - 1 : Nat) : Int) := by rw [IntWalk.i64_in _ (by omega)]; omega
      have HP := Lib.hid (spec_of2 g (N + 2 + 2 * d) ⟨#[108]⟩ ⟨#[114]⟩ wr hc (by omega) (by decide) (by decide))
      have Hg := Lib.hid (grownC_below hg (below_row2 wr ⟨#[108]⟩ ⟨#[114]⟩))
      clear hc hg
      go_wp2_with fail
      refine HP.out.mono ?_
      rintro e w2 ⟨x, rfl, hx, hc2, hg2⟩
      have HC2 : Hid (Cur w2 g (N + 2 + 2 * (d + 1))) := Lib.hid (hc2.more (by omega))
      have HG2 := Lib.hid (Hg.out.trans hg2)
      have HS : Hid ((s ++ x).size ≤ 2 * (d + 1)) := Lib.hid (by rw [ByteArray.size_append]; omega)
      have hsz : s.size + x.size ≤ 9223372036854775807 := by omega
      clear HP Hg hc2 hg2
      go_wp2
      go_roundw
      case rel => exact ⟨q - 1, d + 1, _, by omega, by go_num, rfl, HS.out, HC2.out, HG2.out⟩
      case measure => simp [intOf]; omega
    · have q0 : ¬ (0 : Int) < (q : Int) := by omega
      have HP := Lib.hid (spec_pick g (N + 2 + 2 * d) 14 wr hc (by omega) (by omega))
      have Hg := Lib.hid hg
      clear hc hg
      go_wp2_with fail
      refine HP.out.mono ?_
      rintro e w2 ⟨x, rfl, ⟨x0, x1⟩, hc2, hg2⟩
      have HG2 := Lib.hid (Hg.out.trans hg2)
      by_cases hx0 : x = 0
      · subst hx0
        have HT := Lib.hid (spec_spoilt g (N + 2 + 2 * d + 2) 22 s ⟨#[108, 114, 120]⟩ w2 hc2 (by omega) (by omega) (by omega) (by decide) (by decide))
        clear HP Hg hc2 hg2
        go_wp2_with fail
        refine HT.out.mono ?_
        rintro e w3 ⟨y, rfl, hy, hc3, hg3⟩
        have HR : Hid (DrawnT w g (N + 400) 50 (.returned (.string y)) w3) := Lib.hid ⟨y, rfl, by omega, hc3.more (by omega), HG2.out.trans hg3⟩
        clear HT HG2 hc3 hg3
        go_wp2
        go_ret
        exact HR.out
      · have e0 : (x == 0) = false := by simpa using hx0
        by_cases hx1 : x = 1
        · subst hx1
          have HC2 := Lib.hid (hc2.more (show N + 2 + 2 * d + 2 ≤ N + 30 by omega))
          clear HP Hg hc2 hg2
          go_wp2
          go_loopw [3] (fun v wr => ∃ (d : Nat) (s : ByteArray), d ≤ s.size ∧ v = .string s ∧ s.size ≤ 42 ∧ Cur wr g (N + 30 + 4 * d) ∧ w.grownBy wr (some g)) (fun v _ => 60 - lenB v)
          case atStart => exact ⟨0, s, by omega, rfl, by omega, HC2.out, HG2.out⟩
          case round =>
            clear HC2 HG2 hs q0 hdq
            obtain ⟨d, s, hd, rfl, hs, hc, hg⟩ := hrel
            have HP := Lib.hid (spec_pick g (N + 30 + 4 * d) 2 wr hc (by omega) (by omega))
            have Hg := Lib.hid hg
            clear hc hg
            go_wp2_with fail
            refine HP.out.mono ?_
            rintro e w3 ⟨y, rfl, ⟨y0, y1⟩, hc3, hg3⟩
            have HG3 := Lib.hid (Hg.out.trans hg3)
            have hwy : IntKind.i64.wrap (40 + y) = 40 + y := IntWalk.i64_in _ (by omega)
            clear HP Hg hg3
            by_cases hlt : (s.size : Int) < 40 + y
            · have HT := Lib.hid (spec_of3 g (N + 30 + 4 * d + 2) ⟨#[108]⟩ ⟨#[114]⟩ ⟨#[108, 114]⟩ w3 hc3 (by omega) (by decide) (by decide) (by decide))
              have Hg := Lib.hid (grownC_below HG3.out (below_row3 w3 ⟨#[108]⟩ ⟨#[114]⟩ ⟨#[108, 114]⟩))
              clear hc3 HG3
              go_wp2_with fail
              refine HT.out.mono ?_
              rintro e w4 ⟨x, rfl, ⟨hx1, hx2⟩, hc4, hg4⟩
              have HC4 : Hid (Cur w4 g (N + 30 + 4 * (d + 1))) := Lib.hid (hc4.more (by omega))
              have HG4 := Lib.hid (Hg.out.trans hg4)
              have hss : (s ++ x).size = s.size + x.size := ByteArray.size_append
              have HS : Hid ((s ++ x).size ≤ 42 ∧ d + 1 ≤ (s ++ x).size ∧ 60 - (s ++ x).size < 60 - s.size) := Lib.hid (by omega)
              have hsz : s.size + x.size ≤ 9223372036854775807 := by omega
              clear HT Hg hc4 hg4 hss
              go_wp2
              go_roundw
              case rel => exact ⟨d + 1, _, HS.out.2.1, rfl, HS.out.1, HC4.out, HG4.out⟩
              case measure => exact HS.out.2.2
            · have HR : Hid (DrawnT w g (N + 400) 50 (.returned (.string s)) w3) := Lib.hid ⟨s, rfl, by omega, hc3.more (by omega), HG3.out⟩
              clear hc3 HG3
              go_wp2
              go_ret
              exact HR.out
        · have e1 : (x == 1) = false := by simpa using hx1
          have HR : Hid (DrawnT w g (N + 400) 50 (.returned (.string s)) w2) := Lib.hid ⟨s, rfl, by omega, hc2.more (by omega), HG2.out⟩
          clear HP Hg hc2 hg2 HG2
          go_wp2
          go_ret
          exact HR.out
end Go.Proofs.Ytfkkbjbgjmaciaa

/- A box of two numbers that may be written: a struct of two numbers that a function keeps. -/
namespace Go.Proofs.Ytfkkbjbgjmaciaa
set_option linter.unusedVariables false
open Go.RowKit

/-- a box of two numbers that may be written -/
def Bx2 (w : World) (g : Nat) (x y : Int) : Prop := (w.cell? ⟨g, 0, none⟩ = some (.int .i64 x) ∧ w.cell? ⟨g, 1, none⟩ = some (.int .i64 y)) ∧ w.frozen? ⟨g, 0, none⟩ = false ∧ w.frozen? ⟨g, 1, none⟩ = false
theorem Bx2.lt {w : World} {g : Nat} {x y : Int} (h : Bx2 w g x y) : g < w.heap.size := World.block_lt_of_cell? w _ h.1.1
theorem Bx2.kept {w w' : World} {g : Nat} {x y : Int} (h : Bx2 w g x y) (hb : Below w.heap.size w w') : Bx2 w' g x y := by
  obtain ⟨_, hfz, _⟩ := bcell hb
  exact ⟨⟨cell_kept hb h.1.1, cell_kept hb h.1.2⟩, (hfz g 0 h.lt).trans h.2.1, (hfz g 1 h.lt).trans h.2.2⟩
theorem Bx2.new (w : World) (t : TypeId) (x y : Int) : Bx2 (w.alloc (.cells #[.int .i64 x, .int .i64 y] t)) w.heap.size x y := by unfold Bx2; simp [go_sem]
theorem Bx2.alloc {w : World} {g : Nat} {x y : Int} (h : Bx2 w g x y) (o : Obj) : Bx2 (w.alloc o) g x y := h.kept ((Below.refl _ _).alloc (Nat.le_refl _) _)
theorem Bx2.drewN {w : World} {g : Nat} {x y : Int} (h : Bx2 w g x y) (z : Nat) : Bx2 (w.drewN z) g x y := h
theorem Bx2.set0 {w : World} {g : Nat} {x y : Int} (h : Bx2 w g x y) (z : Int) : Bx2 (w.setCell ⟨g, 0, none⟩ (.int .i64 z)) g z y := by
  obtain ⟨⟨h1, h2⟩, h3, h4⟩ := h
  unfold Bx2
  simp [go_sem, h1, h2, h3, h4]
theorem Bx2.set1 {w : World} {g : Nat} {x y : Int} (h : Bx2 w g x y) (z : Int) : Bx2 (w.setCell ⟨g, 1, none⟩ (.int .i64 z)) g x z := by
  obtain ⟨⟨h1, h2⟩, h3, h4⟩ := h
  unfold Bx2
  simp [go_sem, h1, h2, h3, h4]
theorem Bx2.newd (w : World) (t : TypeId) (x y : Int) : Bx2 (w.alloc (.cells #[.int .i64 x, .int .i64 y] t)).drew w.heap.size x y := Bx2.new w t x y
theorem bx2_set {w : World} {g : Nat} {x y : Int} (h : Bx2 w g x y) (p q : Int) : Bx2 ((w.setCell ⟨g, 0, none⟩ (.int .i64 p)).setCell ⟨g, 1, none⟩ (.int .i64 q)) g p q := (h.set0 p).set1 q
theorem Bx2.setFar {w : World} {g g2 o : Nat} {x y : Int} (h : Bx2 w g x y) (hne : g2 ≠ g) (v : Value) : Bx2 (w.setCell ⟨g2, o, none⟩ v) g x y := by
  obtain ⟨⟨h1, h2⟩, h3, h4⟩ := h
  unfold Bx2
  simp [go_sem, h1, h2, h3, h4, hne]
end Go.Proofs.Ytfkkbjbgjmaciaa

/- Fractions as pairs: crosses, parents, what lies between two neighbours, plus terms. Mathematics; nothing of the program. -/
namespace Go.Proofs.Ytfkkbjbgjmaciaa
set_option linter.unusedVariables false
def crs (f g : Int × Int) : Int := g.1 * f.2 - f.1 * g.2
def med (f g : Int × Int) : Int × Int := (f.1 + g.1, f.2 + g.2)
/-- l and h are the parents of f -/
structure Par (f l h : Int × Int) : Prop where
  l1 : 0 ≤ l.1
  l2 : 0 ≤ l.2
  h1 : 0 ≤ h.1
  h2 : 0 ≤ h.2
  s1 : l.1 + h.1 = f.1
  s2 : l.2 + h.2 = f.2
  det : f.1 * l.2 - l.1 * f.2 = 1
theorem mul_one_le {a k : Int} (ha : 1 ≤ a) (hk : 1 ≤ k) : a ≤ a * k := by
  have := Int.mul_le_mul_of_nonneg_left hk (show 0 ≤ a by omega)
  omega
theorem Par.uniq {f l h l' h' : Int × Int} (f1 : 1 ≤ f.1) (p : Par f l h) (q : Par f l' h') : l = l' ∧ h = h' := by
  obtain ⟨a, b⟩ := f
  obtain ⟨x, y⟩ := l
  obtain ⟨u, v⟩ := h
  obtain ⟨x', y'⟩ := l'
  obtain ⟨u', v'⟩ := h'
  obtain ⟨p1, p2, p3, p4, p5, p6, p7⟩ := p
  obtain ⟨q1, q2, q3, q4, q5, q6, q7⟩ := q
  dsimp only at *
  have e : x - x' = a * (y * (x - x') - x * (y - y')) := by grind
  generalize y * (x - x') - x * (y - y') = k at e
  have hk : k = 0 ∨ 1 ≤ k ∨ k ≤ -1 := by omega
  have key : ∀ x y x' y' u v: Int, ∀ k : Int, 0 ≤ x' → x + u = a → y + v = b → 0 ≤ u → 0 ≤ v → 1 ≤ k → x - x' = a * k → a * y - x * b = 1 → False := by
    intro x y x' y' u v k h1 h2 h3 h4 h5 h6 h7 h8
    have g := mul_one_le f1 h6
    have e1 : x = a := by omega
    subst e1
    have g2 : x * (y - b) = 1 := by rw [Int.mul_sub]; exact h8
    have g3 : 0 ≤ x * (b - y) := Int.mul_nonneg (by omega) (by omega)
    have g4 : x * (y - b) = - (x * (b - y)) := by rw [← Int.mul_neg]; congr 1; omega
    omega
  rcases hk with hk | hk | hk
  · subst hk
    have e1 : x = x' := by simp at e; omega
    subst e1
    have e2 : a * (y - y') = 0 := by rw [Int.mul_sub]; omega
    have e3 : y - y' = 0 := by rcases Int.mul_eq_zero.1 e2 with h | h <;> omega
    have e4 : y = y' := by omega
    subst e4
    refine ⟨rfl, ?_⟩
    rw [Prod.mk.injEq]
    omega
  · exact (key x y x' y' u v k q1 p5 p6 p3 p4 hk e p7).elim
  · exact (key x' y' x y u' v' (-k) p1 q5 q6 q3 q4 (by omega) (by rw [Int.mul_neg]; omega) q7).elim

theorem cop {a b p u v : Int} (h : Nat.gcd a.toNat b.toNat = 1) (hp : 0 ≤ p) (hu : 0 ≤ u) (hv : 0 ≤ v) (ha : a = p * u) (hb : b = p * v) : p = 1 := by
  obtain ⟨p, rfl⟩ := Int.eq_ofNat_of_zero_le hp
  obtain ⟨u, rfl⟩ := Int.eq_ofNat_of_zero_le hu
  obtain ⟨v, rfl⟩ := Int.eq_ofNat_of_zero_le hv
  have ha' : a.toNat = p * u := by rw [ha, ← Int.natCast_mul]; rfl
  have hb' : b.toNat = p * v := by rw [hb, ← Int.natCast_mul]; rfl
  have hd : p ∣ Nat.gcd a.toNat b.toNat := Nat.dvd_gcd (by rw [ha']; exact Nat.dvd_mul_right p u) (by rw [hb']; exact Nat.dvd_mul_right p v)
  rw [h, Nat.dvd_one] at hd
  omega

/-- f lies between l and r, which are neighbours -/
structure Btw (f l r : Int × Int) : Prop where
  l1 : 0 ≤ l.1
  l2 : 0 ≤ l.2
  r1 : 0 ≤ r.1
  r2 : 0 ≤ r.2
  det : r.1 * l.2 - l.1 * r.2 = 1
  lo : 1 ≤ crs l f
  hi : 1 ≤ crs f r
theorem Btw.start {f : Int × Int} (f1 : 1 ≤ f.1) (f2 : 1 ≤ f.2) : Btw f (0, 1) (1, 0) := ⟨by simp, by simp, by simp, by simp, by simp, by simp [crs]; exact f1, by simp [crs]; exact f2⟩
theorem Btw.sum1 {f l r : Int × Int} (h : Btw f l r) : f.1 = crs f r * l.1 + crs l f * r.1 := by
  have := h.det; unfold crs; grind
theorem Btw.sum2 {f l r : Int × Int} (h : Btw f l r) : f.2 = crs f r * l.2 + crs l f * r.2 := by
  have := h.det; unfold crs; grind
theorem one_mul_le {a k : Int} (ha : 0 ≤ a) (hk : 1 ≤ k) : a ≤ k * a := by
  have := Int.mul_le_mul_of_nonneg_right (c := a) hk ha
  omega
theorem Btw.le1 {f l r : Int × Int} (h : Btw f l r) : l.1 + r.1 ≤ f.1 := by
  have := h.sum1; have := one_mul_le h.l1 h.hi; have := one_mul_le h.r1 h.lo; omega
theorem Btw.le2 {f l r : Int × Int} (h : Btw f l r) : l.2 + r.2 ≤ f.2 := by
  have := h.sum2; have := one_mul_le h.l2 h.hi; have := one_mul_le h.r2 h.lo; omega
theorem crs_lo (f l r : Int × Int) (k : Int) : crs (l.1 + k * r.1, l.2 + k * r.2) f = crs l f - k * crs f r := by unfold crs; grind
theorem crs_hi (f l r : Int × Int) (k : Int) : crs f (r.1 + k * l.1, r.2 + k * l.2) = crs f r - k * crs l f := by unfold crs; grind
theorem crs_med (f l r : Int × Int) : crs (med l r) f = crs l f - crs f r := by unfold crs med; grind
theorem crs_med' (f l r : Int × Int) : crs f (med l r) = crs f r - crs l f := by unfold crs med; grind
theorem Btw.up {f l r : Int × Int} (h : Btw f l r) {k : Int} (k0 : 0 ≤ k) (hk : k * crs f r < crs l f) : Btw f (l.1 + k * r.1, l.2 + k * r.2) r := by
  refine ⟨?_, ?_, h.r1, h.r2, ?_, ?_, h.hi⟩
  · have := Int.mul_nonneg k0 h.r1; have := h.l1; dsimp only; omega
  · have := Int.mul_nonneg k0 h.r2; have := h.l2; dsimp only; omega
  · have := h.det; dsimp only; grind
  · rw [crs_lo]; omega
theorem Btw.down {f l r : Int × Int} (h : Btw f l r) {k : Int} (k0 : 0 ≤ k) (hk : k * crs l f < crs f r) : Btw f l (r.1 + k * l.1, r.2 + k * l.2) := by
  refine ⟨h.l1, h.l2, ?_, ?_, ?_, h.lo, ?_⟩
  · have := Int.mul_nonneg k0 h.l1; have := h.r1; dsimp only; omega
  · have := Int.mul_nonneg k0 h.l2; have := h.r2; dsimp only; omega
  · have := h.det; dsimp only; grind
  · rw [crs_hi]; omega
theorem Btw.par {f l r : Int × Int} (h : Btw f l r) (e : med l r = f) : Par f l r := by
  subst e
  refine ⟨h.l1, h.l2, h.r1, h.r2, rfl, rfl, ?_⟩
  have := h.det
  unfold med
  grind
/-- where the mediant's cross is 0 it is the fraction itself -/
theorem Btw.meet {f l r : Int × Int} (h : Btw f l r) (hc : Nat.gcd f.1.toNat f.2.toNat = 1) : crs (med l r) f = 0 ↔ med l r = f := by
  constructor
  · intro e
    rw [crs_med] at e
    have e2 : crs l f = crs f r := by omega
    have s1 := h.sum1
    have s2 := h.sum2
    rw [← e2, ← Int.mul_add] at s1 s2
    have h1 := cop hc (by have := h.lo; omega) (by have := h.l1; have := h.r1; omega) (by have := h.l2; have := h.r2; omega) s1 s2
    rw [h1] at s1 s2
    unfold med
    refine Prod.ext ?_ ?_ <;> dsimp only <;> omega
  · intro e
    rw [e]
    unfold crs
    rw [Int.mul_comm]
    omega
theorem Btw.upM {f l r : Int × Int} (h : Btw f l r) (hk : 0 < crs (med l r) f) : Btw f (med l r) r := by
  rw [crs_med] at hk
  have := h.up (k := 1) (by omega) (by omega)
  simpa [med] using this
theorem Btw.downM {f l r : Int × Int} (h : Btw f l r) (hk : crs (med l r) f < 0) : Btw f l (med l r) := by
  rw [crs_med] at hk
  have := h.down (k := 1) (by omega) (by omega)
  simpa [med, Int.add_comm] using this
/-- how often one can go on: (x - 1) / y -/
theorem often {x y : Int} (hy : 1 ≤ y) (hx : y < x) : 1 ≤ (x - 1) / y ∧ (x - 1) / y * y < x := by
  have e := Int.mul_ediv_add_emod (x - 1) y
  have e1 := Int.emod_nonneg (x - 1) (show y ≠ 0 by omega)
  have e2 := Int.emod_lt_of_pos (x - 1) (show 0 < y by omega)
  refine ⟨?_, by rw [Int.mul_comm]; omega⟩
  rw [Int.le_ediv_iff_mul_le (by omega)]
  omega

/-- the steps of the plus terms of f -/
structure Cf (f P N : Int × Int) (n d : Int) : Prop where
  p1 : 0 ≤ P.1
  p2 : 0 ≤ P.2
  n1 : 0 ≤ N.1
  n2 : 0 ≤ N.2
  hn : 1 ≤ n
  hd : 0 ≤ d
  e1 : n * N.1 + d * P.1 = f.1
  e2 : n * N.2 + d * P.2 = f.2
  det : P.1 * N.2 - N.1 * P.2 = 1 ∨ P.1 * N.2 - N.1 * P.2 = -1
  gcd : Nat.gcd n.toNat d.toNat = 1
  last : d = 0 → P.1 ≤ N.1 ∧ P.2 ≤ N.2
theorem Cf.start {f : Int × Int} (f1 : 1 ≤ f.1) (f2 : 1 ≤ f.2) (h : Nat.gcd f.1.toNat f.2.toNat = 1) : Cf f (0, 1) (1, 0) f.1 f.2 :=
  ⟨by simp, by simp, by simp, by simp, f1, by omega, by simp, by simp, by simp, h, by omega⟩
theorem gcd_mod {n d : Int} (hn : 0 ≤ n) (hd : 0 ≤ d) : Nat.gcd d.toNat (n % d).toNat = Nat.gcd n.toNat d.toNat := by
  obtain ⟨n, rfl⟩ := Int.eq_ofNat_of_zero_le hn
  obtain ⟨d, rfl⟩ := Int.eq_ofNat_of_zero_le hd
  have : ((n : Int) % (d : Int)).toNat = n % d := by rw [← Int.natCast_emod]; rfl
  rw [this]
  simp only [Int.toNat_natCast]
  rw [Nat.gcd_comm n d, Nat.gcd_rec d n, Nat.gcd_comm]
theorem Cf.step {f P N : Int × Int} {n d : Int} (h : Cf f P N n d) (hd1 : 1 ≤ d) : Cf f N (n / d * N.1 + P.1, n / d * N.2 + P.2) d (n % d) := by
  have e := Int.mul_ediv_add_emod n d
  have r0 := Int.emod_nonneg n (show d ≠ 0 by omega)
  have t0 : 0 ≤ n / d := Int.ediv_nonneg (by have := h.hn; omega) (by omega)
  have hg := gcd_mod (n := n) (d := d) (by have := h.hn; omega) h.hd
  generalize n / d = t at *
  generalize n % d = r at *
  have e1 := h.e1
  have e2 := h.e2
  refine ⟨h.n1, h.n2, ?_, ?_, hd1, r0, ?_, ?_, ?_, ?_, ?_⟩
  · have := Int.mul_nonneg t0 h.n1; have := h.p1; dsimp only; omega
  · have := Int.mul_nonneg t0 h.n2; have := h.p2; dsimp only; omega
  · dsimp only; grind
  · dsimp only; grind
  · rcases h.det with g | g
    · right; dsimp only; grind
    · left; dsimp only; grind
  · rw [hg]; exact h.gcd
  · intro er
    subst er
    have ht : 1 ≤ t := by
      rcases (show t = 0 ∨ 1 ≤ t by omega) with h0 | h0
      · subst h0; have := h.hn; simp at e; omega
      · exact h0
    have g1 := one_mul_le h.n1 ht
    have g2 := one_mul_le h.n2 ht
    have := h.p1
    have := h.p2
    dsimp only
    omega
theorem Cf.le {f P N : Int × Int} {n d : Int} (h : Cf f P N n d) : N.1 ≤ f.1 ∧ N.2 ≤ f.2 ∧ P.1 ≤ f.1 ∧ P.2 ≤ f.2 := by
  have a1 := one_mul_le h.n1 h.hn
  have a2 := one_mul_le h.n2 h.hn
  have a3 := Int.mul_nonneg h.hd h.p1
  have a4 := Int.mul_nonneg h.hd h.p2
  have e1 := h.e1
  have e2 := h.e2
  refine ⟨by omega, by omega, ?_⟩
  rcases (show d = 0 ∨ 1 ≤ d by have := h.hd; omega) with h0 | h0
  · have := h.last h0
    omega
  · have := one_mul_le h.p1 h0
    have := one_mul_le h.p2 h0
    have := Int.mul_nonneg (show 0 ≤ n by have := h.hn; omega) h.n1
    have := Int.mul_nonneg (show 0 ≤ n by have := h.hn; omega) h.n2
    omega
theorem Cf.step_le {f P N : Int × Int} {n d : Int} (h : Cf f P N n d) (hd1 : 1 ≤ d) : n / d * N.1 + P.1 ≤ f.1 ∧ n / d * N.2 + P.2 ≤ f.2 ∧ 0 ≤ n / d ∧ 0 ≤ n / d * N.1 ∧ 0 ≤ n / d * N.2 ∧ 0 ≤ n % d ∧ n % d < d := by
  have a := (h.step hd1).le
  have t0 : 0 ≤ n / d := Int.ediv_nonneg (by have := h.hn; omega) (by omega)
  exact ⟨a.1, a.2.1, t0, Int.mul_nonneg t0 h.n1, Int.mul_nonneg t0 h.n2, Int.emod_nonneg n (by omega), Int.emod_lt_of_pos n (by omega)⟩
theorem Cf.done {f P N : Int × Int} {n : Int} (h : Cf f P N n 0) : N = f ∧ (crs P (f.1 - P.1, f.2 - P.2) < 0 → Par f (f.1 - P.1, f.2 - P.2) P) ∧ (¬ crs P (f.1 - P.1, f.2 - P.2) < 0 → Par f P (f.1 - P.1, f.2 - P.2)) := by
  have hn : n = 1 := by
    have := h.gcd
    simp at this
    omega
  subst hn
  have e1 := h.e1
  have e2 := h.e2
  have hN : N = f := Prod.ext (by omega) (by omega)
  subst hN
  obtain ⟨l1, l2⟩ := h.last rfl
  have hx : crs P (N.1 - P.1, N.2 - P.2) = N.1 * P.2 - P.1 * N.2 := by unfold crs; grind
  rw [hx]
  refine ⟨rfl, fun hs => ⟨by dsimp only; omega, by dsimp only; omega, h.p1, h.p2, by dsimp only; omega, by dsimp only; omega, ?_⟩, fun hs => ⟨h.p1, h.p2, by dsimp only; omega, by dsimp only; omega, by dsimp only; omega, by dsimp only; omega, ?_⟩⟩
  · rcases h.det with g | g
    · dsimp only; grind
    · omega
  · rcases h.det with g | g
    · omega
    · omega
theorem Cf.ex {f : Int × Int} : ∀ (m : Nat) (P N : Int × Int) (n d : Int), d.toNat ≤ m → Cf f P N n d → ∃ l r, Par f l r := by
  intro m
  induction m with
  | zero =>
    intro P N n d hm h
    have : d = 0 := by have := h.hd; omega
    subst this
    by_cases hs : crs P (f.1 - P.1, f.2 - P.2) < 0
    · exact ⟨_, _, h.done.2.1 hs⟩
    · exact ⟨_, _, h.done.2.2 hs⟩
  | succ m ih =>
    intro P N n d hm h
    by_cases h0 : d = 0
    · exact ih P N n d (by omega) h
    · have hd := h.hd
      refine ih _ _ _ _ ?_ (h.step (by omega))
      have := Int.emod_lt_of_pos n (show 0 < d by omega)
      have := Int.emod_nonneg n (show d ≠ 0 by omega)
      omega
theorem par_ex {f : Int × Int} (f1 : 1 ≤ f.1) (f2 : 1 ≤ f.2) (h : Nat.gcd f.1.toNat f.2.toNat = 1) : ∃ l r, Par f l r := Cf.ex _ _ _ _ _ (Nat.le_refl _) (Cf.start f1 f2 h)
end Go.Proofs.Ytfkkbjbgjmaciaa

/- Crosses, near fractions, mediants: the model's and the program's contracts. -/
namespace Go.Proofs.Ytfkkbjbgjmaciaa
set_option linter.unusedVariables false
open Go.RowKit

/-- bounds of what is crossed -/
def Sm (x : Int) : Prop := -2000000 ≤ x ∧ x ≤ 2000000
theorem prodSm {x y : Int} (hx : Sm x) (hy : Sm y) : -4000000000000 ≤ x * y ∧ x * y ≤ 4000000000000 := by
  obtain ⟨h1, h2⟩ := hx
  obtain ⟨h3, h4⟩ := hy
  have a := Int.mul_nonneg (show 0 ≤ 2000000 - x by omega) (show 0 ≤ 2000000 - y by omega)
  have b := Int.mul_nonneg (show 0 ≤ 2000000 + x by omega) (show 0 ≤ 2000000 + y by omega)
  have c := Int.mul_nonneg (show 0 ≤ 2000000 - x by omega) (show 0 ≤ 2000000 + y by omega)
  have d := Int.mul_nonneg (show 0 ≤ 2000000 + x by omega) (show 0 ≤ 2000000 - y by omega)
  simp only [Int.sub_mul, Int.mul_sub, Int.add_mul, Int.mul_add] at a b c d
  omega
theorem nbB_sm {a b : Int} (h : nbB a b = true) : Sm a ∧ Sm b := by
  obtain ⟨h1, h2, _⟩ := nbB_iff.1 h
  unfold Sm
  omega

set_option maxHeartbeats 800000 in
theorem spec_nbCross (a b c d : Int) (w : World) (ha : Sm a) (hb : Sm b) (hc : Sm c) (hd : Sm d) :
    Calls Try.prog 150 #[.agg #[.int .i64 a, .int .i64 b], .agg #[.int .i64 c, .int .i64 d]] w fun e w' => e = .returned (.int .i64 (crs (a, b) (c, d))) ∧ Below w.heap.size w w' := by
  have P1 := prodSm hc hb
  have P2 := prodSm ha hd
  obtain ⟨p1, p2⟩ := P1
  obtain ⟨p3, p4⟩ := P2
  have hd0 := Lib.hid (below_two w (.cells #[.int .i64 a, .int .i64 b] 61) (.cells #[.int .i64 c, .int .i64 d] 61))
  unfold Sm at *
  go_enter Try.func150, Try.ntmps150
  go_wp2
  go_ret
  exact ⟨rfl, hd0.out⟩
set_option maxHeartbeats 800000 in
theorem impl_crossF (a b c d : Int) (w : World) (ha : Sm a) (hb : Sm b) (hc : Sm c) (hd : Sm d) :
    Calls Try.prog 149 #[.agg #[.int .i64 a, .int .i64 b], .agg #[.int .i64 c, .int .i64 d]] w fun e w' => e = .returned (.int .i64 (crs (a, b) (c, d))) ∧ Below w.heap.size w w' := by
  have P1 := prodSm hc hb
  have P2 := prodSm ha hd
  obtain ⟨p1, p2⟩ := P1
  obtain ⟨p3, p4⟩ := P2
  have hd0 := Lib.hid (below_two w (.cells #[.int .i64 a, .int .i64 b] 61) (.cells #[.int .i64 c, .int .i64 d] 61))
  unfold Sm at *
  go_enter Try.func149, Try.ntmps149
  go_wp2
  go_ret
  exact ⟨rfl, hd0.out⟩
end Go.Proofs.Ytfkkbjbgjmaciaa

/- CrossOf, AreNear, MediantOf: the model's and the program's contracts. -/
namespace Go.Proofs.Ytfkkbjbgjmaciaa
set_option linter.unusedVariables false
open Go.RowKit

/-- the boxes of two fractions -/
def TwoB (w w1 : World) (a b c d : Int) : Prop :=
  (w1.cell? ⟨w.heap.size, 0, none⟩ = some (.int .i64 a) ∧ w1.cell? ⟨w.heap.size, 1, none⟩ = some (.int .i64 b) ∧ w1.cell? ⟨w.heap.size + 1, 0, none⟩ = some (.int .i64 c) ∧ w1.cell? ⟨w.heap.size + 1, 1, none⟩ = some (.int .i64 d)) ∧ Below w.heap.size w w1
theorem TwoB.start (w : World) (t s : TypeId) (a b c d : Int) : TwoB w ((w.alloc (.cells #[.int .i64 a, .int .i64 b] t)).alloc (.cells #[.int .i64 c, .int .i64 d] s)) a b c d :=
  ⟨⟨by simp [go_sem], by simp [go_sem], by simp [go_sem], by simp [go_sem]⟩, below_two w _ _⟩
theorem TwoB.kept {w w1 w2 : World} {a b c d : Int} (h : TwoB w w1 a b c d) (hb : Below w1.heap.size w1 w2) : TwoB w w2 a b c d := by
  obtain ⟨⟨h0, h1, h2, h3⟩, h4⟩ := h
  exact ⟨⟨cell_kept hb h0, cell_kept hb h1, cell_kept hb h2, cell_kept hb h3⟩, below_kept h4 (Nat.le_refl _) hb⟩
theorem TwoB.alloc {w w1 : World} {a b c d : Int} (h : TwoB w w1 a b c d) (o : Obj) : TwoB w (w1.alloc o) a b c d := h.kept (below_one _ _)
/-- two fractions are near -/
def nearB (a b c d : Int) : Bool := decide (crs (a, b) (c, d) = 1 ∨ crs (a, b) (c, d) = -1)
def okk (a b c d : Int) : Bool := nbB a b && nbB c d
theorem crs_bd {a b c d : Int} (ha : Sm a) (hb : Sm b) (hc : Sm c) (hd : Sm d) : -8000000000000 ≤ crs (a, b) (c, d) ∧ crs (a, b) (c, d) ≤ 8000000000000 := by
  have P1 := prodSm hc hb
  have P2 := prodSm ha hd
  unfold crs
  dsimp only
  omega

set_option maxHeartbeats 800000 in
theorem spec_nbNear (a b c d : Int) (w : World) (ha : Sm a) (hb : Sm b) (hc : Sm c) (hd : Sm d) :
    Calls Try.prog 152 #[.agg #[.int .i64 a, .int .i64 b], .agg #[.int .i64 c, .int .i64 d]] w fun e w' => e = .returned (.bool (nearB a b c d)) ∧ Below w.heap.size w w' := by
  have H := Lib.hid (fun w => spec_nbCross a b c d w ha hb hc hd)
  obtain ⟨x1, x2⟩ := crs_bd ha hb hc hd
  have HE := Lib.hid (show nearB a b c d = decide (crs (a, b) (c, d) = 1 ∨ crs (a, b) (c, d) = -1) from rfl)
  have hd0 := Lib.hid (below_two w (.cells #[.int .i64 a, .int .i64 b] 61) (.cells #[.int .i64 c, .int .i64 d] 61))
  clear ha hb hc hd
  generalize crs (a, b) (c, d) = x at *
  go_enter Try.func152, Try.ntmps152
  go_wp2_with fail
  refine (H.out _).mono ?_
  rintro e w1 ⟨rfl, hb1⟩
  have Hd := Lib.hid (hd0.out.trans (hb1.mono (by simp; omega)))
  clear hb1 H hd0
  go_wp2_with fail
  refine (spec_l1Abs x _ (by omega) (by omega)).mono ?_
  rintro e w2 ⟨rfl, rfl⟩
  have hz : (if x < 0 then -x else x) = 1 ↔ (x = 1 ∨ x = -1) := by split <;> omega
  have HZ := Lib.hid hz
  clear hz
  generalize (if x < 0 then -x else x) = y at *
  go_wp2
  go_ret
  exact ⟨ret_bool (by rw [HE.out, Bool.eq_iff_iff, decide_eq_true_eq, ← HZ.out]; simp), Hd.out⟩
set_option maxHeartbeats 800000 in
theorem impl_isNear (a b c d : Int) (w : World) (ha : Sm a) (hb : Sm b) (hc : Sm c) (hd : Sm d) :
    Calls Try.prog 151 #[.agg #[.int .i64 a, .int .i64 b], .agg #[.int .i64 c, .int .i64 d]] w fun e w' => e = .returned (.bool (nearB a b c d)) ∧ Below w.heap.size w w' := by
  have H := Lib.hid (fun w => impl_crossF a b c d w ha hb hc hd)
  have HE := Lib.hid (show nearB a b c d = decide (crs (a, b) (c, d) = 1 ∨ crs (a, b) (c, d) = -1) from rfl)
  have hd0 := Lib.hid (below_two w (.cells #[.int .i64 a, .int .i64 b] 61) (.cells #[.int .i64 c, .int .i64 d] 61))
  clear ha hb hc hd
  generalize crs (a, b) (c, d) = x at *
  by_cases h1 : x = 1
  · subst h1
    go_enter Try.func151, Try.ntmps151
    go_wp2_with fail
    refine (H.out _).mono ?_
    rintro e w1 ⟨rfl, hb1⟩
    have Hd := Lib.hid (hd0.out.trans (hb1.mono (by simp; omega)))
    clear hb1 H hd0
    go_wp2
    go_ret
    exact ⟨ret_bool (by rw [HE.out]; rfl), Hd.out⟩
  · go_enter Try.func151, Try.ntmps151
    go_wp2_with fail
    refine (H.out _).mono ?_
    rintro e w1 ⟨rfl, hb1⟩
    have Hd := Lib.hid (hd0.out.trans (hb1.mono (by simp; omega)))
    have hx : (x == 1) = false := by simpa using h1
    clear hb1 H hd0
    go_wp2
    go_ret
    exact ⟨ret_bool (by rw [HE.out, Bool.eq_iff_iff]; simp [h1]), Hd.out⟩

theorem retP {v0 v1 : Value} {u0 u1 : Value} (h0 : v0 = u0) (h1 : v1 = u1) : Ending.returned (.tuple #[v0, v1]) = .returned (.tuple #[u0, u1]) := by rw [h0, h1]

def crR (a b c d : Int) : Int := if okk a b c d = true then crs (a, b) (c, d) else 0
set_option maxHeartbeats 1600000 in
theorem spec_CrossOf (a b c d : Int) (w : World) : Calls Try.prog 68 #[.agg #[.int .i64 a, .int .i64 b], .agg #[.int .i64 c, .int .i64 d]] w fun e w' => e = .returned (.tuple #[.int .i64 (crR a b c d), .bool (okk a b c d)]) ∧ Below w.heap.size w w' := by
  have G1 := Lib.hid (spec_nbGood a b)
  have G2 := Lib.hid (spec_nbGood c d)
  cases h1 : nbB a b
  · have HE := Lib.hid (show okk a b c d = false by unfold okk; rw [h1]; rfl)
    have HR := Lib.hid (show crR a b c d = 0 by unfold crR; rw [HE.out]; rfl)
    rw [h1] at G1
    clear h1
    go_enter Try.func68, Try.ntmps68
    go_wp2_with fail
    refine (G1.out _).mono ?_
    rintro e w1 ⟨rfl, hb1⟩
    have S := (TwoB.start w 61 61 a b c d).kept hb1
    clear hb1
    obtain ⟨⟨s0, s1, s2, s3⟩, _⟩ := id S
    replace S := Lib.hid S
    go_wp2
    go_ret2
    exact ⟨retP (by rw [HR.out] <;> rfl) (by rw [HE.out] <;> rfl), S.out.2⟩
  · cases h2 : nbB c d
    · have HE := Lib.hid (show okk a b c d = false by unfold okk; rw [h2, Bool.and_false])
      have HR := Lib.hid (show crR a b c d = 0 by unfold crR; rw [HE.out]; rfl)
      rw [h1] at G1
      rw [h2] at G2
      clear h1 h2
      go_enter Try.func68, Try.ntmps68
      go_wp2_with fail
      refine (G1.out _).mono ?_
      rintro e w1 ⟨rfl, hb1⟩
      have S := (TwoB.start w 61 61 a b c d).kept hb1
      clear hb1
      obtain ⟨⟨s0, s1, s2, s3⟩, _⟩ := id S
      replace S := Lib.hid S
      go_wp2_with fail
      clear s0 s1 s2 s3
      refine (G2.out _).mono ?_
      rintro e w2 ⟨rfl, hb1⟩
      replace S := (Hid.out S).kept hb1
      clear hb1
      obtain ⟨⟨s0, s1, s2, s3⟩, _⟩ := id S
      replace S := Lib.hid S
      go_wp2
      go_ret2
      exact ⟨retP (by rw [HR.out] <;> rfl) (by rw [HE.out] <;> rfl), S.out.2⟩
    · have HE := Lib.hid (show okk a b c d = true by unfold okk; rw [h1, h2]; rfl)
      have HR := Lib.hid (show crR a b c d = crs (a, b) (c, d) by unfold crR; rw [HE.out]; rfl)
      have HC := Lib.hid (fun w => spec_nbCross a b c d w (nbB_sm h1).1 (nbB_sm h1).2 (nbB_sm h2).1 (nbB_sm h2).2)
      rw [h1] at G1
      rw [h2] at G2
      clear h1 h2
      generalize crs (a, b) (c, d) = x at *
      go_enter Try.func68, Try.ntmps68
      go_wp2_with fail
      refine (G1.out _).mono ?_
      rintro e w1 ⟨rfl, hb1⟩
      have S := (TwoB.start w 61 61 a b c d).kept hb1
      clear hb1
      obtain ⟨⟨s0, s1, s2, s3⟩, _⟩ := id S
      replace S := Lib.hid S
      go_wp2_with fail
      clear s0 s1 s2 s3
      refine (G2.out _).mono ?_
      rintro e w2 ⟨rfl, hb1⟩
      replace S := (Hid.out S).kept hb1
      clear hb1
      obtain ⟨⟨s0, s1, s2, s3⟩, _⟩ := id S
      replace S := Lib.hid S
      go_wp2_with fail
      clear s0 s1 s2 s3
      refine (HC.out _).mono ?_
      rintro e w3 ⟨rfl, hb1⟩
      replace S := (Hid.out S).kept hb1
      clear hb1
      obtain ⟨⟨s0, s1, s2, s3⟩, _⟩ := id S
      replace S := Lib.hid S
      go_wp2
      go_ret2
      exact ⟨retP (by rw [HR.out] <;> rfl) (by rw [HE.out] <;> rfl), S.out.2⟩
set_option maxHeartbeats 1600000 in
theorem impl_CrossOf (a b c d : Int) (w : World) : Calls Try.prog 67 #[.agg #[.int .i64 a, .int .i64 b], .agg #[.int .i64 c, .int .i64 d]] w fun e w' => e = .returned (.tuple #[.int .i64 (crR a b c d), .bool (okk a b c d)]) ∧ Below w.heap.size w w' := by
  have G1 := Lib.hid (impl_IsFraction a b)
  have G2 := Lib.hid (impl_IsFraction c d)
  cases h1 : nbB a b
  · have HE := Lib.hid (show okk a b c d = false by unfold okk; rw [h1]; rfl)
    have HR := Lib.hid (show crR a b c d = 0 by unfold crR; rw [HE.out]; rfl)
    rw [h1] at G1
    clear h1
    go_enter Try.func67, Try.ntmps67
    go_wp2_with fail
    refine (G1.out _).mono ?_
    rintro e w1 ⟨rfl, hb1⟩
    have S := (TwoB.start w 61 61 a b c d).kept hb1
    clear hb1
    obtain ⟨⟨s0, s1, s2, s3⟩, _⟩ := id S
    replace S := Lib.hid S
    go_wp2
    go_ret2
    exact ⟨retP (by rw [HR.out] <;> rfl) (by rw [HE.out] <;> rfl), S.out.2⟩
  · cases h2 : nbB c d
    · have HE := Lib.hid (show okk a b c d = false by unfold okk; rw [h2, Bool.and_false])
      have HR := Lib.hid (show crR a b c d = 0 by unfold crR; rw [HE.out]; rfl)
      rw [h1] at G1
      rw [h2] at G2
      clear h1 h2
      go_enter Try.func67, Try.ntmps67
      go_wp2_with fail
      refine (G1.out _).mono ?_
      rintro e w1 ⟨rfl, hb1⟩
      have S := (TwoB.start w 61 61 a b c d).kept hb1
      clear hb1
      obtain ⟨⟨s0, s1, s2, s3⟩, _⟩ := id S
      replace S := Lib.hid S
      go_wp2_with fail
      clear s0 s1 s2 s3
      refine (G2.out _).mono ?_
      rintro e w2 ⟨rfl, hb1⟩
      replace S := (Hid.out S).kept hb1
      clear hb1
      obtain ⟨⟨s0, s1, s2, s3⟩, _⟩ := id S
      replace S := Lib.hid S
      go_wp2
      go_ret2
      exact ⟨retP (by rw [HR.out] <;> rfl) (by rw [HE.out] <;> rfl), S.out.2⟩
    · have HE := Lib.hid (show okk a b c d = true by unfold okk; rw [h1, h2]; rfl)
      have HR := Lib.hid (show crR a b c d = crs (a, b) (c, d) by unfold crR; rw [HE.out]; rfl)
      have HC := Lib.hid (fun w => impl_crossF a b c d w (nbB_sm h1).1 (nbB_sm h1).2 (nbB_sm h2).1 (nbB_sm h2).2)
      rw [h1] at G1
      rw [h2] at G2
      clear h1 h2
      generalize crs (a, b) (c, d) = x at *
      go_enter Try.func67, Try.ntmps67
      go_wp2_with fail
      refine (G1.out _).mono ?_
      rintro e w1 ⟨rfl, hb1⟩
      have S := (TwoB.start w 61 61 a b c d).kept hb1
      clear hb1
      obtain ⟨⟨s0, s1, s2, s3⟩, _⟩ := id S
      replace S := Lib.hid S
      go_wp2_with fail
      clear s0 s1 s2 s3
      refine (G2.out _).mono ?_
      rintro e w2 ⟨rfl, hb1⟩
      replace S := (Hid.out S).kept hb1
      clear hb1
      obtain ⟨⟨s0, s1, s2, s3⟩, _⟩ := id S
      replace S := Lib.hid S
      go_wp2_with fail
      clear s0 s1 s2 s3
      refine (HC.out _).mono ?_
      rintro e w3 ⟨rfl, hb1⟩
      replace S := (Hid.out S).kept hb1
      clear hb1
      obtain ⟨⟨s0, s1, s2, s3⟩, _⟩ := id S
      replace S := Lib.hid S
      go_wp2
      go_ret2
      exact ⟨retP (by rw [HR.out] <;> rfl) (by rw [HE.out] <;> rfl), S.out.2⟩
def nrR (a b c d : Int) : Bool := if okk a b c d = true then nearB a b c d else false
set_option maxHeartbeats 1600000 in
theorem spec_AreNear (a b c d : Int) (w : World) : Calls Try.prog 70 #[.agg #[.int .i64 a, .int .i64 b], .agg #[.int .i64 c, .int .i64 d]] w fun e w' => e = .returned (.tuple #[.bool (nrR a b c d), .bool (okk a b c d)]) ∧ Below w.heap.size w w' := by
  have G1 := Lib.hid (spec_nbGood a b)
  have G2 := Lib.hid (spec_nbGood c d)
  cases h1 : nbB a b
  · have HE := Lib.hid (show okk a b c d = false by unfold okk; rw [h1]; rfl)
    have HR := Lib.hid (show nrR a b c d = false by unfold nrR; rw [HE.out]; rfl)
    rw [h1] at G1
    clear h1
    go_enter Try.func70, Try.ntmps70
    go_wp2_with fail
    refine (G1.out _).mono ?_
    rintro e w1 ⟨rfl, hb1⟩
    have S := (TwoB.start w 61 61 a b c d).kept hb1
    clear hb1
    obtain ⟨⟨s0, s1, s2, s3⟩, _⟩ := id S
    replace S := Lib.hid S
    go_wp2
    go_ret2
    exact ⟨retP (by rw [HR.out] <;> rfl) (by rw [HE.out] <;> rfl), S.out.2⟩
  · cases h2 : nbB c d
    · have HE := Lib.hid (show okk a b c d = false by unfold okk; rw [h2, Bool.and_false])
      have HR := Lib.hid (show nrR a b c d = false by unfold nrR; rw [HE.out]; rfl)
      rw [h1] at G1
      rw [h2] at G2
      clear h1 h2
      go_enter Try.func70, Try.ntmps70
      go_wp2_with fail
      refine (G1.out _).mono ?_
      rintro e w1 ⟨rfl, hb1⟩
      have S := (TwoB.start w 61 61 a b c d).kept hb1
      clear hb1
      obtain ⟨⟨s0, s1, s2, s3⟩, _⟩ := id S
      replace S := Lib.hid S
      go_wp2_with fail
      clear s0 s1 s2 s3
      refine (G2.out _).mono ?_
      rintro e w2 ⟨rfl, hb1⟩
      replace S := (Hid.out S).kept hb1
      clear hb1
      obtain ⟨⟨s0, s1, s2, s3⟩, _⟩ := id S
      replace S := Lib.hid S
      go_wp2
      go_ret2
      exact ⟨retP (by rw [HR.out] <;> rfl) (by rw [HE.out] <;> rfl), S.out.2⟩
    · have HE := Lib.hid (show okk a b c d = true by unfold okk; rw [h1, h2]; rfl)
      have HR := Lib.hid (show nrR a b c d = nearB a b c d by unfold nrR; rw [HE.out]; rfl)
      have HC := Lib.hid (fun w => spec_nbNear a b c d w (nbB_sm h1).1 (nbB_sm h1).2 (nbB_sm h2).1 (nbB_sm h2).2)
      rw [h1] at G1
      rw [h2] at G2
      clear h1 h2
      generalize nearB a b c d = x at *
      go_enter Try.func70, Try.ntmps70
      go_wp2_with fail
      refine (G1.out _).mono ?_
      rintro e w1 ⟨rfl, hb1⟩
      have S := (TwoB.start w 61 61 a b c d).kept hb1
      clear hb1
      obtain ⟨⟨s0, s1, s2, s3⟩, _⟩ := id S
      replace S := Lib.hid S
      go_wp2_with fail
      clear s0 s1 s2 s3
      refine (G2.out _).mono ?_
      rintro e w2 ⟨rfl, hb1⟩
      replace S := (Hid.out S).kept hb1
      clear hb1
      obtain ⟨⟨s0, s1, s2, s3⟩, _⟩ := id S
      replace S := Lib.hid S
      go_wp2_with fail
      clear s0 s1 s2 s3
      refine (HC.out _).mono ?_
      rintro e w3 ⟨rfl, hb1⟩
      replace S := (Hid.out S).kept hb1
      clear hb1
      obtain ⟨⟨s0, s1, s2, s3⟩, _⟩ := id S
      replace S := Lib.hid S
      go_wp2
      go_ret2
      exact ⟨retP (by rw [HR.out] <;> rfl) (by rw [HE.out] <;> rfl), S.out.2⟩
set_option maxHeartbeats 1600000 in
theorem impl_AreNear (a b c d : Int) (w : World) : Calls Try.prog 69 #[.agg #[.int .i64 a, .int .i64 b], .agg #[.int .i64 c, .int .i64 d]] w fun e w' => e = .returned (.tuple #[.bool (nrR a b c d), .bool (okk a b c d)]) ∧ Below w.heap.size w w' := by
  have G1 := Lib.hid (impl_IsFraction a b)
  have G2 := Lib.hid (impl_IsFraction c d)
  cases h1 : nbB a b
  · have HE := Lib.hid (show okk a b c d = false by unfold okk; rw [h1]; rfl)
    have HR := Lib.hid (show nrR a b c d = false by unfold nrR; rw [HE.out]; rfl)
    rw [h1] at G1
    clear h1
    go_enter Try.func69, Try.ntmps69
    go_wp2_with fail
    refine (G1.out _).mono ?_
    rintro e w1 ⟨rfl, hb1⟩
    have S := (TwoB.start w 61 61 a b c d).kept hb1
    clear hb1
    obtain ⟨⟨s0, s1, s2, s3⟩, _⟩ := id S
    replace S := Lib.hid S
    go_wp2
    go_ret2
    exact ⟨retP (by rw [HR.out] <;> rfl) (by rw [HE.out] <;> rfl), S.out.2⟩
  · cases h2 : nbB c d
    · have HE := Lib.hid (show okk a b c d = false by unfold okk; rw [h2, Bool.and_false])
      have HR := Lib.hid (show nrR a b c d = false by unfold nrR; rw [HE.out]; rfl)
      rw [h1] at G1
      rw [h2] at G2
      clear h1 h2
      go_enter Try.func69, Try.ntmps69
      go_wp2_with fail
      refine (G1.out _).mono ?_
      rintro e w1 ⟨rfl, hb1⟩
      have S := (TwoB.start w 61 61 a b c d).kept hb1
      clear hb1
      obtain ⟨⟨s0, s1, s2, s3⟩, _⟩ := id S
      replace S := Lib.hid S
      go_wp2_with fail
      clear s0 s1 s2 s3
      refine (G2.out _).mono ?_
      rintro e w2 ⟨rfl, hb1⟩
      replace S := (Hid.out S).kept hb1
      clear hb1
      obtain ⟨⟨s0, s1, s2, s3⟩, _⟩ := id S
      replace S := Lib.hid S
      go_wp2
      go_ret2
      exact ⟨retP (by rw [HR.out] <;> rfl) (by rw [HE.out] <;> rfl), S.out.2⟩
    · have HE := Lib.hid (show okk a b c d = true by unfold okk; rw [h1, h2]; rfl)
      have HR := Lib.hid (show nrR a b c d = nearB a b c d by unfold nrR; rw [HE.out]; rfl)
      have HC := Lib.hid (fun w => impl_isNear a b c d w (nbB_sm h1).1 (nbB_sm h1).2 (nbB_sm h2).1 (nbB_sm h2).2)
      rw [h1] at G1
      rw [h2] at G2
      clear h1 h2
      generalize nearB a b c d = x at *
      go_enter Try.func69, Try.ntmps69
      go_wp2_with fail
      refine (G1.out _).mono ?_
      rintro e w1 ⟨rfl, hb1⟩
      have S := (TwoB.start w 61 61 a b c d).kept hb1
      clear hb1
      obtain ⟨⟨s0, s1, s2, s3⟩, _⟩ := id S
      replace S := Lib.hid S
      go_wp2_with fail
      clear s0 s1 s2 s3
      refine (G2.out _).mono ?_
      rintro e w2 ⟨rfl, hb1⟩
      replace S := (Hid.out S).kept hb1
      clear hb1
      obtain ⟨⟨s0, s1, s2, s3⟩, _⟩ := id S
      replace S := Lib.hid S
      go_wp2_with fail
      clear s0 s1 s2 s3
      refine (HC.out _).mono ?_
      rintro e w3 ⟨rfl, hb1⟩
      replace S := (Hid.out S).kept hb1
      clear hb1
      obtain ⟨⟨s0, s1, s2, s3⟩, _⟩ := id S
      replace S := Lib.hid S
      go_wp2
      go_ret2
      exact ⟨retP (by rw [HR.out] <;> rfl) (by rw [HE.out] <;> rfl), S.out.2⟩
end Go.Proofs.Ytfkkbjbgjmaciaa

/- Mediants: the model's and the program's contracts. -/
namespace Go.Proofs.Ytfkkbjbgjmaciaa
set_option linter.unusedVariables false
open Go.RowKit

theorem below_three (w : World) (x y z : Obj) : Below w.heap.size w (((w.alloc x).alloc y).alloc z) := (below_two w x y).alloc (by simp; omega) _
theorem spec_nbMediant (a b c d : Int) (w : World) (ha : Sm a) (hb : Sm b) (hc : Sm c) (hd : Sm d) :
    Calls Try.prog 154 #[.agg #[.int .i64 a, .int .i64 b], .agg #[.int .i64 c, .int .i64 d]] w fun e w' => e = .returned (.agg #[.int .i64 (a + c), .int .i64 (b + d)]) ∧ Below w.heap.size w w' := by
  unfold Sm at *
  go_enter Try.func154, Try.ntmps154
  go_wp2
  exact bodyPost_ret (v := .agg #[.int .i64 (a + c), .int .i64 (b + d)]) (by simp [results, Try.results154, go_sem]) rfl ⟨rfl, below_three _ _ _ _⟩
theorem impl_plus (a b c d : Int) (w : World) (ha : Sm a) (hb : Sm b) (hc : Sm c) (hd : Sm d) :
    Calls Try.prog 153 #[.agg #[.int .i64 a, .int .i64 b], .agg #[.int .i64 c, .int .i64 d]] w fun e w' => e = .returned (.agg #[.int .i64 (a + c), .int .i64 (b + d)]) ∧ Below w.heap.size w w' := by
  unfold Sm at *
  go_enter Try.func153, Try.ntmps153
  go_wp2
  exact bodyPost_ret (v := .agg #[.int .i64 (a + c), .int .i64 (b + d)]) (by simp [results, Try.results153, go_sem]) rfl ⟨rfl, below_three _ _ _ _⟩

def medOk (a b c d : Int) : Bool := okk a b c d && nearB a b c d && nbB (a + c) (b + d)
def medR (a b c d : Int) : Int × Int := if medOk a b c d = true then (a + c, b + d) else (0, 0)
theorem medR_no {a b c d : Int} (h : medOk a b c d = false) : medR a b c d = (0, 0) := if_neg (by rw [h]; simp)
theorem medR_yes {a b c d : Int} (h : medOk a b c d = true) : medR a b c d = (a + c, b + d) := if_pos h
/-- a fraction and a bool are told -/
def MedE (R : Int × Int) (ok : Bool) (w : World) (e : Ending) (w' : World) : Prop := e = .returned (.tuple #[.agg #[.int .i64 R.1, .int .i64 R.2], .bool ok]) ∧ Below w.heap.size w w'
theorem medE_no {a b c d : Int} {w w' : World} (h : medOk a b c d = false) (hb : Below w.heap.size w w') : MedE (medR a b c d) (medOk a b c d) w (.returned (.tuple #[.agg #[.int .i64 0, .int .i64 0], .bool false])) w' := by
  rw [medR_no h, h]; exact ⟨rfl, hb⟩
theorem medE_yes {a b c d : Int} {w w' : World} (h : medOk a b c d = true) (hb : Below w.heap.size w w') : MedE (medR a b c d) (medOk a b c d) w (.returned (.tuple #[.agg #[.int .i64 (a + c), .int .i64 (b + d)], .bool true])) w' := by
  rw [medR_yes h, h]; exact ⟨rfl, hb⟩
theorem below_setP {B g : Nat} {w0 w : World} {v0 v1 : Value} (h : Below B w0 w) (hg : B ≤ g) : Below B w0 ((w.setCell ⟨g, 0, none⟩ v0).setCell ⟨g, 1, none⟩ v1) := (h.setCell (p := ⟨g, 0, none⟩) hg v0).setCell (p := ⟨g, 1, none⟩) hg v1
/-- the box of a result, made behind those of two arguments -/
theorem resBox (w : World) (t s : TypeId) (a b c d : Int) : Bx2 (((w.alloc (.cells #[.int .i64 a, .int .i64 b] t)).alloc (.cells #[.int .i64 c, .int .i64 d] t)).alloc (.cells #[.int .i64 0, .int .i64 0] s)) (w.heap.size + 2) 0 0 := by
  have h := Bx2.new ((w.alloc (.cells #[.int .i64 a, .int .i64 b] t)).alloc (.cells #[.int .i64 c, .int .i64 d] t)) s 0 0
  simpa using h

set_option maxHeartbeats 1600000 in
theorem spec_MediantOf_0 (a b c d : Int) (w : World) (h1 : nbB a b = false) : Calls Try.prog 72 #[.agg #[.int .i64 a, .int .i64 b], .agg #[.int .i64 c, .int .i64 d]] w (MedE (medR a b c d) (medOk a b c d) w) := by
  have HE := Lib.hid (fun w' => @medE_no a b c d w w' (show medOk a b c d = false by unfold medOk okk; simp [h1]))
  have G1 := Lib.hid (spec_nbGood a b)
  rw [h1] at G1
  generalize medR a b c d = R at *
  generalize medOk a b c d = ok at *
  clear h1
  go_enter Try.func72, Try.ntmps72
  go_wp2_with fail
  refine (G1.out _).mono ?_
  rintro e w1 ⟨rfl, hb⟩
  have S := Lib.hid (((TwoB.start w 61 61 a b c d).alloc _).kept hb)
  have Z := Lib.hid ((resBox w 61 61 a b c d).kept hb)
  clear hb
  obtain ⟨⟨s0, s1, s2, s3⟩, _⟩ := id S.out
  obtain ⟨⟨z0, z1⟩, z2, z3⟩ := id Z.out
  have zl := Z.out.lt
  go_wp2
  exact bodyPost_ret (v := .tuple #[.agg #[.int .i64 0, .int .i64 0], .bool false]) (by simp [results, Try.results72, go_sem, z0, z1, z2, z3]) rfl (HE.out _ (below_setP S.out.2 (by omega)))
set_option maxHeartbeats 1600000 in
theorem spec_MediantOf_1 (a b c d : Int) (w : World) (h1 : nbB a b = true) (h2 : nbB c d = false) : Calls Try.prog 72 #[.agg #[.int .i64 a, .int .i64 b], .agg #[.int .i64 c, .int .i64 d]] w (MedE (medR a b c d) (medOk a b c d) w) := by
  have HE := Lib.hid (fun w' => @medE_no a b c d w w' (show medOk a b c d = false by unfold medOk okk; simp [h1, h2]))
  have G1 := Lib.hid (spec_nbGood a b)
  rw [h1] at G1
  have G2 := Lib.hid (spec_nbGood c d)
  rw [h2] at G2
  generalize medR a b c d = R at *
  generalize medOk a b c d = ok at *
  clear h1 h2
  go_enter Try.func72, Try.ntmps72
  go_wp2_with fail
  refine (G1.out _).mono ?_
  rintro e w1 ⟨rfl, hb⟩
  have S := Lib.hid (((TwoB.start w 61 61 a b c d).alloc _).kept hb)
  have Z := Lib.hid ((resBox w 61 61 a b c d).kept hb)
  clear hb
  obtain ⟨⟨s0, s1, s2, s3⟩, _⟩ := id S.out
  obtain ⟨⟨z0, z1⟩, z2, z3⟩ := id Z.out
  have zl := Z.out.lt
  go_wp2_with fail
  clear s0 s1 s2 s3 z0 z1 z2 z3 zl
  refine (G2.out _).mono ?_
  rintro e w2 ⟨rfl, hb⟩
  replace S := Lib.hid (S.out.kept hb)
  replace Z := Lib.hid (Z.out.kept hb)
  clear hb
  obtain ⟨⟨s0, s1, s2, s3⟩, _⟩ := id S.out
  obtain ⟨⟨z0, z1⟩, z2, z3⟩ := id Z.out
  have zl := Z.out.lt
  go_wp2
  exact bodyPost_ret (v := .tuple #[.agg #[.int .i64 0, .int .i64 0], .bool false]) (by simp [results, Try.results72, go_sem, z0, z1, z2, z3]) rfl (HE.out _ (below_setP S.out.2 (by omega)))
set_option maxHeartbeats 1600000 in
theorem spec_MediantOf_2 (a b c d : Int) (w : World) (h1 : nbB a b = true) (h2 : nbB c d = true) (h3 : nearB a b c d = false) : Calls Try.prog 72 #[.agg #[.int .i64 a, .int .i64 b], .agg #[.int .i64 c, .int .i64 d]] w (MedE (medR a b c d) (medOk a b c d) w) := by
  have HE := Lib.hid (fun w' => @medE_no a b c d w w' (show medOk a b c d = false by unfold medOk okk; simp [h1, h2, h3]))
  have G1 := Lib.hid (spec_nbGood a b)
  rw [h1] at G1
  have G2 := Lib.hid (spec_nbGood c d)
  rw [h2] at G2
  have B1 := nbB_sm h1
  have B2 := nbB_sm h2
  have G3 := Lib.hid (fun w => spec_nbNear a b c d w B1.1 B1.2 B2.1 B2.2)
  rw [h3] at G3
  generalize medR a b c d = R at *
  generalize medOk a b c d = ok at *
  clear h1 h2 h3 B1 B2
  go_enter Try.func72, Try.ntmps72
  go_wp2_with fail
  refine (G1.out _).mono ?_
  rintro e w1 ⟨rfl, hb⟩
  have S := Lib.hid (((TwoB.start w 61 61 a b c d).alloc _).kept hb)
  have Z := Lib.hid ((resBox w 61 61 a b c d).kept hb)
  clear hb
  obtain ⟨⟨s0, s1, s2, s3⟩, _⟩ := id S.out
  obtain ⟨⟨z0, z1⟩, z2, z3⟩ := id Z.out
  have zl := Z.out.lt
  go_wp2_with fail
  clear s0 s1 s2 s3 z0 z1 z2 z3 zl
  refine (G2.out _).mono ?_
  rintro e w2 ⟨rfl, hb⟩
  replace S := Lib.hid (S.out.kept hb)
  replace Z := Lib.hid (Z.out.kept hb)
  clear hb
  obtain ⟨⟨s0, s1, s2, s3⟩, _⟩ := id S.out
  obtain ⟨⟨z0, z1⟩, z2, z3⟩ := id Z.out
  have zl := Z.out.lt
  go_wp2_with fail
  clear s0 s1 s2 s3 z0 z1 z2 z3 zl
  refine (G3.out _).mono ?_
  rintro e w3 ⟨rfl, hb⟩
  replace S := Lib.hid (S.out.kept hb)
  replace Z := Lib.hid (Z.out.kept hb)
  clear hb
  obtain ⟨⟨s0, s1, s2, s3⟩, _⟩ := id S.out
  obtain ⟨⟨z0, z1⟩, z2, z3⟩ := id Z.out
  have zl := Z.out.lt
  go_wp2
  exact bodyPost_ret (v := .tuple #[.agg #[.int .i64 0, .int .i64 0], .bool false]) (by simp [results, Try.results72, go_sem, z0, z1, z2, z3]) rfl (HE.out _ (below_setP S.out.2 (by omega)))
set_option maxHeartbeats 1600000 in
theorem spec_MediantOf_3 (a b c d : Int) (w : World) (h1 : nbB a b = true) (h2 : nbB c d = true) (h3 : nearB a b c d = true) (h4 : nbB (a + c) (b + d) = false) : Calls Try.prog 72 #[.agg #[.int .i64 a, .int .i64 b], .agg #[.int .i64 c, .int .i64 d]] w (MedE (medR a b c d) (medOk a b c d) w) := by
  have HE := Lib.hid (fun w' => @medE_no a b c d w w' (show medOk a b c d = false by unfold medOk okk; simp [h1, h2, h3, h4]))
  have G1 := Lib.hid (spec_nbGood a b)
  rw [h1] at G1
  have G2 := Lib.hid (spec_nbGood c d)
  rw [h2] at G2
  have B1 := nbB_sm h1
  have B2 := nbB_sm h2
  have G3 := Lib.hid (fun w => spec_nbNear a b c d w B1.1 B1.2 B2.1 B2.2)
  rw [h3] at G3
  have GM := Lib.hid (fun w => spec_nbMediant a b c d w B1.1 B1.2 B2.1 B2.2)
  have G4 := Lib.hid (spec_nbGood (a + c) (b + d))
  rw [h4] at G4
  generalize medR a b c d = R at *
  generalize medOk a b c d = ok at *
  generalize a + c = m at *
  generalize b + d = n at *
  clear h1 h2 h3 h4 B1 B2
  go_enter Try.func72, Try.ntmps72
  go_wp2_with fail
  refine (G1.out _).mono ?_
  rintro e w1 ⟨rfl, hb⟩
  have S := Lib.hid (((TwoB.start w 61 61 a b c d).alloc _).kept hb)
  have Z := Lib.hid ((resBox w 61 61 a b c d).kept hb)
  clear hb
  obtain ⟨⟨s0, s1, s2, s3⟩, _⟩ := id S.out
  obtain ⟨⟨z0, z1⟩, z2, z3⟩ := id Z.out
  have zl := Z.out.lt
  go_wp2_with fail
  clear s0 s1 s2 s3 z0 z1 z2 z3 zl
  refine (G2.out _).mono ?_
  rintro e w2 ⟨rfl, hb⟩
  replace S := Lib.hid (S.out.kept hb)
  replace Z := Lib.hid (Z.out.kept hb)
  clear hb
  obtain ⟨⟨s0, s1, s2, s3⟩, _⟩ := id S.out
  obtain ⟨⟨z0, z1⟩, z2, z3⟩ := id Z.out
  have zl := Z.out.lt
  go_wp2_with fail
  clear s0 s1 s2 s3 z0 z1 z2 z3 zl
  refine (G3.out _).mono ?_
  rintro e w3 ⟨rfl, hb⟩
  replace S := Lib.hid (S.out.kept hb)
  replace Z := Lib.hid (Z.out.kept hb)
  clear hb
  obtain ⟨⟨s0, s1, s2, s3⟩, _⟩ := id S.out
  obtain ⟨⟨z0, z1⟩, z2, z3⟩ := id Z.out
  have zl := Z.out.lt
  go_wp2_with fail
  clear s0 s1 s2 s3 z0 z1 z2 z3 zl
  refine (GM.out _).mono ?_
  rintro e w4 ⟨rfl, hb⟩
  replace S := Lib.hid (S.out.kept hb)
  replace Z := Lib.hid (Z.out.kept hb)
  clear hb
  obtain ⟨⟨s0, s1, s2, s3⟩, _⟩ := id S.out
  obtain ⟨⟨z0, z1⟩, z2, z3⟩ := id Z.out
  have zl := Z.out.lt
  go_wp2_with fail
  clear s0 s1 s2 s3 z0 z1 z2 z3 zl
  refine (G4.out _).mono ?_
  rintro e w5 ⟨rfl, hb⟩
  replace S := Lib.hid (S.out.kept hb)
  replace Z := Lib.hid (Z.out.kept hb)
  clear hb
  obtain ⟨⟨s0, s1, s2, s3⟩, _⟩ := id S.out
  obtain ⟨⟨z0, z1⟩, z2, z3⟩ := id Z.out
  have zl := Z.out.lt
  go_wp2
  exact bodyPost_ret (v := .tuple #[.agg #[.int .i64 0, .int .i64 0], .bool false]) (by simp [results, Try.results72, go_sem, z0, z1, z2, z3]) rfl (HE.out _ (below_setP S.out.2 (by omega)))
set_option maxHeartbeats 1600000 in
theorem spec_MediantOf_4 (a b c d : Int) (w : World) (h1 : nbB a b = true) (h2 : nbB c d = true) (h3 : nearB a b c d = true) (h4 : nbB (a + c) (b + d) = true) : Calls Try.prog 72 #[.agg #[.int .i64 a, .int .i64 b], .agg #[.int .i64 c, .int .i64 d]] w (MedE (medR a b c d) (medOk a b c d) w) := by
  have HE := Lib.hid (fun w' => @medE_yes a b c d w w' (show medOk a b c d = true by unfold medOk okk; simp [h1, h2, h3, h4]))
  have G1 := Lib.hid (spec_nbGood a b)
  rw [h1] at G1
  have G2 := Lib.hid (spec_nbGood c d)
  rw [h2] at G2
  have B1 := nbB_sm h1
  have B2 := nbB_sm h2
  have G3 := Lib.hid (fun w => spec_nbNear a b c d w B1.1 B1.2 B2.1 B2.2)
  rw [h3] at G3
  have GM := Lib.hid (fun w => spec_nbMediant a b c d w B1.1 B1.2 B2.1 B2.2)
  have G4 := Lib.hid (spec_nbGood (a + c) (b + d))
  rw [h4] at G4
  generalize medR a b c d = R at *
  generalize medOk a b c d = ok at *
  generalize a + c = m at *
  generalize b + d = n at *
  clear h1 h2 h3 h4 B1 B2
  go_enter Try.func72, Try.ntmps72
  go_wp2_with fail
  refine (G1.out _).mono ?_
  rintro e w1 ⟨rfl, hb⟩
  have S := Lib.hid (((TwoB.start w 61 61 a b c d).alloc _).kept hb)
  have Z := Lib.hid ((resBox w 61 61 a b c d).kept hb)
  clear hb
  obtain ⟨⟨s0, s1, s2, s3⟩, _⟩ := id S.out
  obtain ⟨⟨z0, z1⟩, z2, z3⟩ := id Z.out
  have zl := Z.out.lt
  go_wp2_with fail
  clear s0 s1 s2 s3 z0 z1 z2 z3 zl
  refine (G2.out _).mono ?_
  rintro e w2 ⟨rfl, hb⟩
  replace S := Lib.hid (S.out.kept hb)
  replace Z := Lib.hid (Z.out.kept hb)
  clear hb
  obtain ⟨⟨s0, s1, s2, s3⟩, _⟩ := id S.out
  obtain ⟨⟨z0, z1⟩, z2, z3⟩ := id Z.out
  have zl := Z.out.lt
  go_wp2_with fail
  clear s0 s1 s2 s3 z0 z1 z2 z3 zl
  refine (G3.out _).mono ?_
  rintro e w3 ⟨rfl, hb⟩
  replace S := Lib.hid (S.out.kept hb)
  replace Z := Lib.hid (Z.out.kept hb)
  clear hb
  obtain ⟨⟨s0, s1, s2, s3⟩, _⟩ := id S.out
  obtain ⟨⟨z0, z1⟩, z2, z3⟩ := id Z.out
  have zl := Z.out.lt
  go_wp2_with fail
  clear s0 s1 s2 s3 z0 z1 z2 z3 zl
  refine (GM.out _).mono ?_
  rintro e w4 ⟨rfl, hb⟩
  replace S := Lib.hid (S.out.kept hb)
  replace Z := Lib.hid (Z.out.kept hb)
  clear hb
  obtain ⟨⟨s0, s1, s2, s3⟩, _⟩ := id S.out
  obtain ⟨⟨z0, z1⟩, z2, z3⟩ := id Z.out
  have zl := Z.out.lt
  go_wp2_with fail
  clear s0 s1 s2 s3 z0 z1 z2 z3 zl
  refine (G4.out _).mono ?_
  rintro e w5 ⟨rfl, hb⟩
  replace S := Lib.hid (S.out.kept hb)
  replace Z := Lib.hid (Z.out.kept hb)
  clear hb
  obtain ⟨⟨s0, s1, s2, s3⟩, _⟩ := id S.out
  obtain ⟨⟨z0, z1⟩, z2, z3⟩ := id Z.out
  have zl := Z.out.lt
  go_wp2_with fail
  clear s0 s1 s2 s3 z0 z1 z2 z3 zl
  refine (GM.out _).mono ?_
  rintro e w6 ⟨rfl, hb⟩
  replace S := Lib.hid (S.out.kept hb)
  replace Z := Lib.hid (Z.out.kept hb)
  clear hb
  obtain ⟨⟨s0, s1, s2, s3⟩, _⟩ := id S.out
  obtain ⟨⟨z0, z1⟩, z2, z3⟩ := id Z.out
  have zl := Z.out.lt
  go_wp2
  exact bodyPost_ret (v := .tuple #[.agg #[.int .i64 m, .int .i64 n], .bool true]) (by simp [results, Try.results72, go_sem, z0, z1, z2, z3]) rfl (HE.out _ (below_setP S.out.2 (by omega)))
theorem spec_MediantOf (a b c d : Int) (w : World) : Calls Try.prog 72 #[.agg #[.int .i64 a, .int .i64 b], .agg #[.int .i64 c, .int .i64 d]] w (MedE (medR a b c d) (medOk a b c d) w) := by
  cases h1 : nbB a b
  · exact spec_MediantOf_0 a b c d w h1
  · cases h2 : nbB c d
    · exact spec_MediantOf_1 a b c d w h1 h2
    · cases h3 : nearB a b c d
      · exact spec_MediantOf_2 a b c d w h1 h2 h3
      · cases h4 : nbB (a + c) (b + d)
        · exact spec_MediantOf_3 a b c d w h1 h2 h3 h4
        · exact spec_MediantOf_4 a b c d w h1 h2 h3 h4
set_option maxHeartbeats 1600000 in
theorem impl_MediantOf_0 (a b c d : Int) (w : World) (h1 : nbB a b = false) : Calls Try.prog 71 #[.agg #[.int .i64 a, .int .i64 b], .agg #[.int .i64 c, .int .i64 d]] w (MedE (medR a b c d) (medOk a b c d) w) := by
  have HE := Lib.hid (fun w' => @medE_no a b c d w w' (show medOk a b c d = false by unfold medOk okk; simp [h1]))
  have G1 := Lib.hid (impl_IsFraction a b)
  rw [h1] at G1
  generalize medR a b c d = R at *
  generalize medOk a b c d = ok at *
  clear h1
  go_enter Try.func71, Try.ntmps71
  go_wp2_with fail
  refine (G1.out _).mono ?_
  rintro e w1 ⟨rfl, hb⟩
  have S := Lib.hid (((TwoB.start w 61 61 a b c d).alloc _).kept hb)
  have Z := Lib.hid ((resBox w 61 61 a b c d).kept hb)
  clear hb
  obtain ⟨⟨s0, s1, s2, s3⟩, _⟩ := id S.out
  obtain ⟨⟨z0, z1⟩, z2, z3⟩ := id Z.out
  have zl := Z.out.lt
  go_wp2
  exact bodyPost_ret (v := .tuple #[.agg #[.int .i64 0, .int .i64 0], .bool false]) (by simp [results, Try.results71, go_sem, z0, z1, z2, z3]) rfl (HE.out _ (below_setP S.out.2 (by omega)))
set_option maxHeartbeats 1600000 in
theorem impl_MediantOf_1 (a b c d : Int) (w : World) (h1 : nbB a b = true) (h2 : nbB c d = false) : Calls Try.prog 71 #[.agg #[.int .i64 a, .int .i64 b], .agg #[.int .i64 c, .int .i64 d]] w (MedE (medR a b c d) (medOk a b c d) w) := by
  have HE := Lib.hid (fun w' => @medE_no a b c d w w' (show medOk a b c d = false by unfold medOk okk; simp [h1, h2]))
  have G1 := Lib.hid (impl_IsFraction a b)
  rw [h1] at G1
  have G2 := Lib.hid (impl_IsFraction c d)
  rw [h2] at G2
  generalize medR a b c d = R at *
  generalize medOk a b c d = ok at *
  clear h1 h2
  go_enter Try.func71, Try.ntmps71
  go_wp2_with fail
  refine (G1.out _).mono ?_
  rintro e w1 ⟨rfl, hb⟩
  have S := Lib.hid (((TwoB.start w 61 61 a b c d).alloc _).kept hb)
  have Z := Lib.hid ((resBox w 61 61 a b c d).kept hb)
  clear hb
  obtain ⟨⟨s0, s1, s2, s3⟩, _⟩ := id S.out
  obtain ⟨⟨z0, z1⟩, z2, z3⟩ := id Z.out
  have zl := Z.out.lt
  go_wp2_with fail
  clear s0 s1 s2 s3 z0 z1 z2 z3 zl
  refine (G2.out _).mono ?_
  rintro e w2 ⟨rfl, hb⟩
  replace S := Lib.hid (S.out.kept hb)
  replace Z := Lib.hid (Z.out.kept hb)
  clear hb
  obtain ⟨⟨s0, s1, s2, s3⟩, _⟩ := id S.out
  obtain ⟨⟨z0, z1⟩, z2, z3⟩ := id Z.out
  have zl := Z.out.lt
  go_wp2
  exact bodyPost_ret (v := .tuple #[.agg #[.int .i64 0, .int .i64 0], .bool false]) (by simp [results, Try.results71, go_sem, z0, z1, z2, z3]) rfl (HE.out _ (below_setP S.out.2 (by omega)))
set_option maxHeartbeats 1600000 in
theorem impl_MediantOf_2 (a b c d : Int) (w : World) (h1 : nbB a b = true) (h2 : nbB c d = true) (h3 : nearB a b c d = false) : Calls Try.prog 71 #[.agg #[.int .i64 a, .int .i64 b], .agg #[.int .i64 c, .int .i64 d]] w (MedE (medR a b c d) (medOk a b c d) w) := by
  have HE := Lib.hid (fun w' => @medE_no a b c d w w' (show medOk a b c d = false by unfold medOk okk; simp [h1, h2, h3]))
  have G1 := Lib.hid (impl_IsFraction a b)
  rw [h1] at G1
  have G2 := Lib.hid (impl_IsFraction c d)
  rw [h2] at G2
  have B1 := nbB_sm h1
  have B2 := nbB_sm h2
  have G3 := Lib.hid (fun w => impl_isNear a b c d w B1.1 B1.2 B2.1 B2.2)
  rw [h3] at G3
  generalize medR a b c d = R at *
  generalize medOk a b c d = ok at *
  clear h1 h2 h3 B1 B2
  go_enter Try.func71, Try.ntmps71
  go_wp2_with fail
  refine (G1.out _).mono ?_
  rintro e w1 ⟨rfl, hb⟩
  have S := Lib.hid (((TwoB.start w 61 61 a b c d).alloc _).kept hb)
  have Z := Lib.hid ((resBox w 61 61 a b c d).kept hb)
  clear hb
  obtain ⟨⟨s0, s1, s2, s3⟩, _⟩ := id S.out
  obtain ⟨⟨z0, z1⟩, z2, z3⟩ := id Z.out
  have zl := Z.out.lt
  go_wp2_with fail
  clear s0 s1 s2 s3 z0 z1 z2 z3 zl
  refine (G2.out _).mono ?_
  rintro e w2 ⟨rfl, hb⟩
  replace S := Lib.hid (S.out.kept hb)
  replace Z := Lib.hid (Z.out.kept hb)
  clear hb
  obtain ⟨⟨s0, s1, s2, s3⟩, _⟩ := id S.out
  obtain ⟨⟨z0, z1⟩, z2, z3⟩ := id Z.out
  have zl := Z.out.lt
  go_wp2_with fail
  clear s0 s1 s2 s3 z0 z1 z2 z3 zl
  refine (G3.out _).mono ?_
  rintro e w3 ⟨rfl, hb⟩
  replace S := Lib.hid (S.out.kept hb)
  replace Z := Lib.hid (Z.out.kept hb)
  clear hb
  obtain ⟨⟨s0, s1, s2, s3⟩, _⟩ := id S.out
  obtain ⟨⟨z0, z1⟩, z2, z3⟩ := id Z.out
  have zl := Z.out.lt
  go_wp2
  exact bodyPost_ret (v := .tuple #[.agg #[.int .i64 0, .int .i64 0], .bool false]) (by simp [results, Try.results71, go_sem, z0, z1, z2, z3]) rfl (HE.out _ (below_setP S.out.2 (by omega)))
set_option maxHeartbeats 1600000 in
theorem impl_MediantOf_3 (a b c d : Int) (w : World) (h1 : nbB a b = true) (h2 : nbB c d = true) (h3 : nearB a b c d = true) (h4 : nbB (a + c) (b + d) = false) : Calls Try.prog 71 #[.agg #[.int .i64 a, .int .i64 b], .agg #[.int .i64 c, .int .i64 d]] w (MedE (medR a b c d) (medOk a b c d) w) := by
  have HE := Lib.hid (fun w' => @medE_no a b c d w w' (show medOk a b c d = false by unfold medOk okk; simp [h1, h2, h3, h4]))
  have G1 := Lib.hid (impl_IsFraction a b)
  rw [h1] at G1
  have G2 := Lib.hid (impl_IsFraction c d)
  rw [h2] at G2
  have B1 := nbB_sm h1
  have B2 := nbB_sm h2
  have G3 := Lib.hid (fun w => impl_isNear a b c d w B1.1 B1.2 B2.1 B2.2)
  rw [h3] at G3
  have GM := Lib.hid (fun w => impl_plus a b c d w B1.1 B1.2 B2.1 B2.2)
  have G4 := Lib.hid (impl_IsFraction (a + c) (b + d))
  rw [h4] at G4
  generalize medR a b c d = R at *
  generalize medOk a b c d = ok at *
  generalize a + c = m at *
  generalize b + d = n at *
  clear h1 h2 h3 h4 B1 B2
  go_enter Try.func71, Try.ntmps71
  go_wp2_with fail
  refine (G1.out _).mono ?_
  rintro e w1 ⟨rfl, hb⟩
  have S := Lib.hid (((TwoB.start w 61 61 a b c d).alloc _).kept hb)
  have Z := Lib.hid ((resBox w 61 61 a b c d).kept hb)
  clear hb
  obtain ⟨⟨s0, s1, s2, s3⟩, _⟩ := id S.out
  obtain ⟨⟨z0, z1⟩, z2, z3⟩ := id Z.out
  have zl := Z.out.lt
  go_wp2_with fail
  clear s0 s1 s2 s3 z0 z1 z2 z3 zl
  refine (G2.out _).mono ?_
  rintro e w2 ⟨rfl, hb⟩
  replace S := Lib.hid (S.out.kept hb)
  replace Z := Lib.hid (Z.out.kept hb)
  clear hb
  obtain ⟨⟨s0, s1, s2, s3⟩, _⟩ := id S.out
  obtain ⟨⟨z0, z1⟩, z2, z3⟩ := id Z.out
  have zl := Z.out.lt
  go_wp2_with fail
  clear s0 s1 s2 s3 z0 z1 z2 z3 zl
  refine (G3.out _).mono ?_
  rintro e w3 ⟨rfl, hb⟩
  replace S := Lib.hid (S.out.kept hb)
  replace Z := Lib.hid (Z.out.kept hb)
  clear hb
  obtain ⟨⟨s0, s1, s2, s3⟩, _⟩ := id S.out
  obtain ⟨⟨z0, z1⟩, z2, z3⟩ := id Z.out
  have zl := Z.out.lt
  go_wp2_with fail
  clear s0 s1 s2 s3 z0 z1 z2 z3 zl
  refine (GM.out _).mono ?_
  rintro e w4 ⟨rfl, hb⟩
  replace S := Lib.hid (S.out.kept hb)
  replace Z := Lib.hid (Z.out.kept hb)
  clear hb
  obtain ⟨⟨s0, s1, s2, s3⟩, _⟩ := id S.out
  obtain ⟨⟨z0, z1⟩, z2, z3⟩ := id Z.out
  have zl := Z.out.lt
  go_wp2_with fail
  clear s0 s1 s2 s3 z0 z1 z2 z3 zl
  have M := Lib.hid (Bx2.new w4 61 m n)
  replace S := Lib.hid (S.out.alloc (.cells #[.int .i64 m, .int .i64 n] 61))
  replace Z := Lib.hid (Z.out.alloc (.cells #[.int .i64 m, .int .i64 n] 61))
  refine (G4.out _).mono ?_
  rintro e w9 ⟨rfl, hb⟩
  replace S := Lib.hid (S.out.kept hb)
  replace Z := Lib.hid (Z.out.kept hb)
  replace M := Lib.hid (M.out.kept hb)
  clear hb
  obtain ⟨⟨s0, s1, s2, s3⟩, _⟩ := id S.out
  obtain ⟨⟨z0, z1⟩, z2, z3⟩ := id Z.out
  have zl := Z.out.lt
  obtain ⟨⟨M0, M1⟩, M2, M3⟩ := id M.out
  have Ml := M.out.lt
  go_wp2
  exact bodyPost_ret (v := .tuple #[.agg #[.int .i64 0, .int .i64 0], .bool false]) (by simp [results, Try.results71, go_sem, z0, z1, z2, z3]) rfl (HE.out _ (below_setP S.out.2 (by omega)))
set_option maxHeartbeats 1600000 in
theorem impl_MediantOf_4 (a b c d : Int) (w : World) (h1 : nbB a b = true) (h2 : nbB c d = true) (h3 : nearB a b c d = true) (h4 : nbB (a + c) (b + d) = true) : Calls Try.prog 71 #[.agg #[.int .i64 a, .int .i64 b], .agg #[.int .i64 c, .int .i64 d]] w (MedE (medR a b c d) (medOk a b c d) w) := by
  have HE := Lib.hid (fun w' => @medE_yes a b c d w w' (show medOk a b c d = true by unfold medOk okk; simp [h1, h2, h3, h4]))
  have G1 := Lib.hid (impl_IsFraction a b)
  rw [h1] at G1
  have G2 := Lib.hid (impl_IsFraction c d)
  rw [h2] at G2
  have B1 := nbB_sm h1
  have B2 := nbB_sm h2
  have G3 := Lib.hid (fun w => impl_isNear a b c d w B1.1 B1.2 B2.1 B2.2)
  rw [h3] at G3
  have GM := Lib.hid (fun w => impl_plus a b c d w B1.1 B1.2 B2.1 B2.2)
  have G4 := Lib.hid (impl_IsFraction (a + c) (b + d))
  rw [h4] at G4
  generalize medR a b c d = R at *
  generalize medOk a b c d = ok at *
  generalize a + c = m at *
  generalize b + d = n at *
  clear h1 h2 h3 h4 B1 B2
  go_enter Try.func71, Try.ntmps71
  go_wp2_with fail
  refine (G1.out _).mono ?_
  rintro e w1 ⟨rfl, hb⟩
  have S := Lib.hid (((TwoB.start w 61 61 a b c d).alloc _).kept hb)
  have Z := Lib.hid ((resBox w 61 61 a b c d).kept hb)
  clear hb
  obtain ⟨⟨s0, s1, s2, s3⟩, _⟩ := id S.out
  obtain ⟨⟨z0, z1⟩, z2, z3⟩ := id Z.out
  have zl := Z.out.lt
  go_wp2_with fail
  clear s0 s1 s2 s3 z0 z1 z2 z3 zl
  refine (G2.out _).mono ?_
  rintro e w2 ⟨rfl, hb⟩
  replace S := Lib.hid (S.out.kept hb)
  replace Z := Lib.hid (Z.out.kept hb)
  clear hb
  obtain ⟨⟨s0, s1, s2, s3⟩, _⟩ := id S.out
  obtain ⟨⟨z0, z1⟩, z2, z3⟩ := id Z.out
  have zl := Z.out.lt
  go_wp2_with fail
  clear s0 s1 s2 s3 z0 z1 z2 z3 zl
  refine (G3.out _).mono ?_
  rintro e w3 ⟨rfl, hb⟩
  replace S := Lib.hid (S.out.kept hb)
  replace Z := Lib.hid (Z.out.kept hb)
  clear hb
  obtain ⟨⟨s0, s1, s2, s3⟩, _⟩ := id S.out
  obtain ⟨⟨z0, z1⟩, z2, z3⟩ := id Z.out
  have zl := Z.out.lt
  go_wp2_with fail
  clear s0 s1 s2 s3 z0 z1 z2 z3 zl
  refine (GM.out _).mono ?_
  rintro e w4 ⟨rfl, hb⟩
  replace S := Lib.hid (S.out.kept hb)
  replace Z := Lib.hid (Z.out.kept hb)
  clear hb
  obtain ⟨⟨s0, s1, s2, s3⟩, _⟩ := id S.out
  obtain ⟨⟨z0, z1⟩, z2, z3⟩ := id Z.out
  have zl := Z.out.lt
  go_wp2_with fail
  clear s0 s1 s2 s3 z0 z1 z2 z3 zl
  have M := Lib.hid (Bx2.new w4 61 m n)
  replace S := Lib.hid (S.out.alloc (.cells #[.int .i64 m, .int .i64 n] 61))
  replace Z := Lib.hid (Z.out.alloc (.cells #[.int .i64 m, .int .i64 n] 61))
  refine (G4.out _).mono ?_
  rintro e w9 ⟨rfl, hb⟩
  replace S := Lib.hid (S.out.kept hb)
  replace Z := Lib.hid (Z.out.kept hb)
  replace M := Lib.hid (M.out.kept hb)
  clear hb
  obtain ⟨⟨s0, s1, s2, s3⟩, _⟩ := id S.out
  obtain ⟨⟨z0, z1⟩, z2, z3⟩ := id Z.out
  have zl := Z.out.lt
  obtain ⟨⟨M0, M1⟩, M2, M3⟩ := id M.out
  have Ml := M.out.lt
  go_wp2
  exact bodyPost_ret (v := .tuple #[.agg #[.int .i64 m, .int .i64 n], .bool true]) (by simp [results, Try.results71, go_sem, z0, z1, z2, z3]) rfl (HE.out _ (below_setP S.out.2 (by omega)))
theorem impl_MediantOf (a b c d : Int) (w : World) : Calls Try.prog 71 #[.agg #[.int .i64 a, .int .i64 b], .agg #[.int .i64 c, .int .i64 d]] w (MedE (medR a b c d) (medOk a b c d) w) := by
  cases h1 : nbB a b
  · exact impl_MediantOf_0 a b c d w h1
  · cases h2 : nbB c d
    · exact impl_MediantOf_1 a b c d w h1 h2
    · cases h3 : nearB a b c d
      · exact impl_MediantOf_2 a b c d w h1 h2 h3
      · cases h4 : nbB (a + c) (b + d)
        · exact impl_MediantOf_3 a b c d w h1 h2 h3 h4
        · exact impl_MediantOf_4 a b c d w h1 h2 h3 h4
end Go.Proofs.Ytfkkbjbgjmaciaa

/- The draws of fractions. -/
namespace Go.Proofs.Ytfkkbjbgjmaciaa
set_option linter.unusedVariables false
open Go.RowKit

/-- a fraction drawn -/
def DrawnF (w : World) (g N : Nat) (e : Ending) (w' : World) : Prop := ∃ a b : Int, e = .returned (.agg #[.int .i64 a, .int .i64 b]) ∧ Cur w' g N ∧ w.grownBy w' (some g)
theorem sm_of {x : Int} (h0 : 0 ≤ x) (h1 : x ≤ 1000) : Sm x := by unfold Sm; omega
theorem Bx2.far {w w' : World} {b : Nat} {x y : Int} {row : Option Nat} (h : Bx2 w b x y) (hg : w.grownBy w' row) (hne : some b ≠ row) : Bx2 w' b x y := by
  have hl := h.lt
  have e := hg.block b hl hne
  obtain ⟨⟨h1, h2⟩, h3, h4⟩ := h
  exact ⟨⟨(World.cell?_of_block (a := ⟨b, 0, none⟩) e).trans h1, (World.cell?_of_block (a := ⟨b, 1, none⟩) e).trans h2⟩, (World.frozen?_of_block (a := ⟨b, 0, none⟩) e).trans h3, (World.frozen?_of_block (a := ⟨b, 1, none⟩) e).trans h4⟩
theorem grownC_put {w w1 : World} {g b o : Nat} {v : Value} (h : w.grownBy w1 (some g)) (hb : w.heap.size ≤ b) : w.grownBy (w1.setCell ⟨b, o, none⟩ v) (some g) :=
  ⟨h.os, h.tape, h.output, by simpa using h.size, fun k hk hne => (heap_setCell_other w1 ⟨b, o, none⟩ k v (fun e => by simp at e; omega)).trans (h.block k hk hne)⟩
theorem Cur.put {w : World} {g N b o : Nat} {v : Value} (h : Cur w g N) (hb : g < b) : Cur (w.setCell ⟨b, o, none⟩ v) g N :=
  h.far (grownC_set w b o v) (fun k hk => by injection hk with hk; omega)
theorem below_of_grown {w w1 w' : World} {g : Nat} (hg : w1.grownBy w' (some g)) : w1.heap.size ≤ w'.heap.size := hg.size
/-- the state of the loop: the result's box, the two boxes, how many rounds are to come -/
def FS (w wr : World) (g gr gl q d N : Nat) : Prop :=
  ∃ (l1 l2 h1 h2 : Int) (c : Nat), (0 ≤ l1 ∧ l1 ≤ c) ∧ (0 ≤ l2 ∧ l2 ≤ c) ∧ (0 ≤ h1 ∧ h1 ≤ c) ∧ (0 ≤ h2 ∧ h2 ≤ c) ∧ c * 2 ^ q ≤ 128 ∧ Bx2 wr gr 0 0 ∧ Bx2 wr gl l1 l2 ∧ Bx2 wr (gl + 1) h1 h2 ∧ Cur wr g (N + 4 + 2 * d) ∧ w.grownBy wr (some g) ∧ gl + 2 ≤ wr.heap.size
theorem pow7 {p : Nat} (h : p ≤ 7) : 2 ^ p ≤ 128 := Nat.le_trans (Nat.pow_le_pow_right (by omega) h) (by decide)
theorem pow_le {c q : Nat} (h : c * 2 ^ q ≤ 128) : c ≤ 128 := by
  have := Nat.mul_le_mul_left c (show 1 ≤ 2 ^ q from Nat.one_le_two_pow)
  omega
theorem pow_half {c q : Nat} (h0 : 0 < q) (h : c * 2 ^ q ≤ 128) : 2 * c * 2 ^ (q - 1) ≤ 128 := by
  obtain ⟨k, rfl⟩ : ∃ k, q = k + 1 := ⟨q - 1, by omega⟩
  rw [Nat.pow_succ] at h
  simp only [Nat.add_sub_cancel]
  rw [Nat.mul_comm 2 c, Nat.mul_assoc, Nat.mul_comm 2]
  exact h
set_option maxRecDepth 100000 in
set_option maxHeartbeats 12800000 in
theorem spec_fraction (g N : Nat) (w : World) (h : Cur w g N) (hN : N ≤ 2000000000) :
    Calls Try.prog 144 #[.pointer (some ⟨g, 0, none⟩)] w (DrawnF w g (N + 100)) := by
  obtain ⟨w1, hw1⟩ : ∃ w1, w1 = w.alloc (.cells #[.int .i64 0, .int .i64 0] 61) := ⟨_, rfl⟩
  have hgl := h.lt
  have hb1 : Below w.heap.size w w1 := by rw [hw1]; exact (Below.refl w.heap.size w).alloc (Nat.le_refl _) _
  have hB1 : Bx2 w1 w.heap.size 0 0 := by rw [hw1]; exact Bx2.new w _ 0 0
  have HT := Lib.hid (spec_one g N 10 w1 (h.kept hb1) (by omega) (by omega))
  have Hb1 := Lib.hid hb1
  have HB1 := Lib.hid hB1
  have hz1 : w1.heap.size = w.heap.size + 1 := by rw [hw1]; simp
  clear h hb1 hB1
  go_enter Try.func144, Try.ntmps144
  go_wp2_with fail
  rw [← hw1]
  clear hw1
  refine HT.out.mono ?_
  rintro e w2 ⟨b, rfl, hc2, hg2⟩
  have hb2 := HB1.out.far hg2 (by simp; omega)
  have g2 := World.grownBy.trans (grownC_below (World.grownBy.refl w (some g)) Hb1.out) hg2
  have hz2 := hg2.size
  rw [hz1] at hz2
  have HB2 := Lib.hid hb2
  have Hg2 := Lib.hid g2
  cases b
  · clear HT Hb1 HB1 hg2 hb2 g2
    go_upto_region 4 with fail
    obtain ⟨w3, hw3⟩ : ∃ w3, w3 = (w2.alloc (.cells #[.int .i64 0, .int .i64 1] 61)).alloc (.cells #[.int .i64 1, .int .i64 0] 61) := ⟨_, rfl⟩
    obtain ⟨gl, hgl2⟩ : ∃ gl, gl = w2.heap.size := ⟨_, rfl⟩
    have hb3 : Below w2.heap.size w2 w3 := by rw [hw3]; exact ((Below.refl w2.heap.size w2).alloc (Nat.le_refl _) _).alloc (by simp) _
    have hL : Bx2 w3 gl 0 1 := by rw [hw3, hgl2]; exact (Bx2.new w2 _ 0 1).alloc _
    have hH : Bx2 w3 (gl + 1) 1 0 := by
      have := Bx2.new (w2.alloc (.cells #[.int .i64 0, .int .i64 1] 61)) 61 1 0
      rw [hw3, hgl2]; simpa using this
    have hz3 : w3.heap.size = gl + 2 := by rw [hw3, hgl2]; simp
    rw [← hw3, ← hgl2]
    have hR3 := HB2.out.kept hb3
    have g3 := grownC_below Hg2.out hb3
    have HT := Lib.hid (spec_pick g (N + 2) 8 w3 (hc2.kept hb3) (by omega) (by omega))
    rw [← hgl2] at hz2
    have HS : Hid (Bx2 w3 w.heap.size 0 0 ∧ Bx2 w3 gl 0 1 ∧ Bx2 w3 (gl + 1) 1 0 ∧ w.grownBy w3 (some g)) := Lib.hid ⟨hR3, hL, hH, g3⟩
    clear hw3 hgl2 hb3 hL hH hR3 g3 HB2 Hg2 hc2
    go_wp2_with fail
    refine HT.out.mono ?_
    rintro e w4 ⟨x, rfl, ⟨x0, x1⟩, hc4, hg4⟩
    obtain ⟨p, rfl⟩ := Int.eq_ofNat_of_zero_le x0
    have p7 : p ≤ 7 := by omega
    obtain ⟨hR, hL, hH, hg⟩ := HS.out
    have HF : Hid (FS w w4 g w.heap.size gl p 0 N) := Lib.hid ⟨0, 1, 1, 0, 1, by omega, by omega, by omega, by omega, by rw [Nat.one_mul]; exact pow7 p7, hR.far hg4 (by simp; omega), hL.far hg4 (by simp; omega), hH.far hg4 (by simp; omega), hc4.more (by omega), hg.trans hg4, by have := hg4.size; omega⟩
    clear HT HS hR hL hH hg hg4 hc4 x0 x1
    go_wp2
    go_loopw [5] (fun k wr => ∃ q d : Nat, d + q = p ∧ k = .int .i64 q ∧ FS w wr g w.heap.size gl q d N) (fun k _ => (intOf k).toNat)
    case atStart => exact ⟨p, 0, by omega, rfl, HF.out⟩
    case round =>
      clear HF
      obtain ⟨q, d, hdq, rfl, hF⟩ := hrel
      obtain ⟨w5, hw5⟩ : ∃ w5, w5 = wr := ⟨_, rfl⟩
      subst hw5
      obtain ⟨l1, l2, h1, h2, c, l1b, l2b, h1b, h2b, hcp, hR, hL, hH, hc, hg, hsz⟩ := hF
      have hc128 : c ≤ 128 := pow_le hcp
      have HR := Lib.hid hR
      have HG := Lib.hid hg
      have HM := Lib.hid (spec_nbMediant l1 l2 h1 h2 w5 (sm_of (by omega) (by omega)) (sm_of (by omega) (by omega)) (sm_of (by omega) (by omega)) (sm_of (by omega) (by omega)))
      obtain ⟨⟨a0, a1⟩, b0, b1⟩ := hL
      obtain ⟨⟨c0, c1⟩, d0, d1⟩ := hH
      have HL : Hid (Bx2 w5 gl l1 l2) := Lib.hid ⟨⟨a0, a1⟩, b0, b1⟩
      have HH : Hid (Bx2 w5 (gl + 1) h1 h2) := Lib.hid ⟨⟨c0, c1⟩, d0, d1⟩
      by_cases hq : 0 < q
      · have q0 : (0 : Int) < (q : Int) := by omega
        have hwq : IntKind.i64.wrap ((q : Int) - 1) = ((q - 1 : Nat) : Int) := by rw [IntWalk.i64_in _ (by omega)]; omega
        clear hR hg b0 b1 d0 d1
        have HC := Lib.hid hc
        clear hc
        go_wp2_with fail
        refine HM.out.mono ?_
        rintro e w6 ⟨rfl, hb6⟩
        obtain ⟨w7, hw7⟩ : ∃ w7, w7 = w6.alloc (.cells #[.int .i64 (l1 + h1), .int .i64 (l2 + h2)] 61) := ⟨_, rfl⟩
        have hb7 : Below w5.heap.size w5 w7 := by rw [hw7]; exact hb6.alloc hb6.size _
        have hM7 : Bx2 w7 w6.heap.size (l1 + h1) (l2 + h2) := by rw [hw7]; exact Bx2.new w6 _ _ _
        have hz7 : w7.heap.size = w6.heap.size + 1 := by rw [hw7]; simp
        have HT := Lib.hid (spec_one g (N + 4 + 2 * d) 2 w7 (HC.out.kept hb7) (by omega) (by omega))
        have hz6 := hb6.size
        have HS : Hid (Bx2 w7 w.heap.size 0 0 ∧ Bx2 w7 gl l1 l2 ∧ Bx2 w7 (gl + 1) h1 h2 ∧ w.grownBy w7 (some g)) := Lib.hid ⟨HR.out.kept hb7, HL.out.kept hb7, HH.out.kept hb7, grownC_below HG.out hb7⟩
        have Hw7 := Lib.hid hw7
        clear hb6 hb7 hw7 HC HG HR HL HH HM a0 a1 c0 c1
        go_upto_region 8 with fail
        rw [← Hw7.out]
        clear Hw7
        go_wp2_with fail
        refine HT.out.mono ?_
        rintro e w8 ⟨b, rfl, hc8, hg8⟩
        obtain ⟨hR, hL, hH, hg⟩ := HS.out
        have hz8 := hg8.size
        have hR8 := hR.far hg8 (by simp; omega)
        have hL8 := hL.far hg8 (by simp; omega)
        have hH8 := hH.far hg8 (by simp; omega)
        have hM8 := hM7.far hg8 (by simp; omega)
        have hg9 := hg.trans hg8
        have hcq := pow_half hq hcp
        clear HT HS hR hL hH hg hM7 hg8
        cases b
        · have HF : Hid (FS w ((w8.setCell ⟨gl + 1, 0, none⟩ (.int .i64 (l1 + h1))).setCell ⟨gl + 1, 1, none⟩ (.int .i64 (l2 + h2))) g w.heap.size gl (q - 1) (d + 1) N) :=
            Lib.hid ⟨l1, l2, l1 + h1, l2 + h2, 2 * c, by omega, by omega, by omega, by omega, hcq, (hR8.setFar (by omega) _).setFar (by omega) _, (hL8.setFar (by omega) _).setFar (by omega) _, bx2_set hH8 _ _, ((hc8.more (by omega)).put (by omega)).put (by omega), grownC_put (grownC_put hg9 (by omega)) (by omega), by simp; omega⟩
          obtain ⟨⟨e0, e1⟩, _, _⟩ := hM8
          obtain ⟨_, f0, f1⟩ := hH8
          clear hR8 hL8 hg9 hc8 hcq
          go_wp2
          go_roundw
          case rel => exact ⟨q - 1, d + 1, by omega, by go_num, HF.out⟩
          case measure => simp [intOf]; omega
        · have HF : Hid (FS w ((w8.setCell ⟨gl, 0, none⟩ (.int .i64 (l1 + h1))).setCell ⟨gl, 1, none⟩ (.int .i64 (l2 + h2))) g w.heap.size gl (q - 1) (d + 1) N) :=
            Lib.hid ⟨l1 + h1, l2 + h2, h1, h2, 2 * c, by omega, by omega, by omega, by omega, hcq, (hR8.setFar (by omega) _).setFar (by omega) _, bx2_set hL8 _ _, (hH8.setFar (by omega) _).setFar (by omega) _, ((hc8.more (by omega)).put (by omega)).put (by omega), grownC_put (grownC_put hg9 (by omega)) (by omega), by simp; omega⟩
          obtain ⟨⟨e0, e1⟩, _, _⟩ := hM8
          obtain ⟨_, f0, f1⟩ := hL8
          clear hR8 hH8 hg9 hc8 hcq
          go_wp2
          go_roundw
          case rel => exact ⟨q - 1, d + 1, by omega, by go_num, HF.out⟩
          case measure => simp [intOf]; omega
      · have q0 : ¬ (0 : Int) < (q : Int) := by omega
        clear hg b0 b1 d0 d1
        have HC := Lib.hid hc
        clear hc
        go_wp2_with fail
        refine HM.out.mono ?_
        rintro e w6 ⟨rfl, hb6⟩
        have HE : Hid (DrawnF w g (N + 100) (.returned (.agg #[.int .i64 (l1 + h1), .int .i64 (l2 + h2)])) ((w6.setCell ⟨w.heap.size, 0, none⟩ (.int .i64 (l1 + h1))).setCell ⟨w.heap.size, 1, none⟩ (.int .i64 (l2 + h2)))) := Lib.hid ⟨_, _, rfl, (((HC.out.kept hb6).more (by omega)).put (by omega)).put (by omega), grownC_put (grownC_put (grownC_below HG.out hb6) (by omega)) (by omega)⟩
        obtain ⟨⟨e0, e1⟩, f0, f1⟩ := HR.out.kept hb6
        clear HM HC HG HR HL HH hR hb6
        go_wp2
        refine bodyPost_ret (v := .agg #[.int .i64 (l1 + h1), .int .i64 (l2 + h2)]) ?_ rfl ?_
        · simp [results, Try.results144, go_sem, e0, e1]
        · exact HE.out
  · have hba := (Below.refl w2.heap.size w2).alloc (Nat.le_refl _) (.cells #[.int .i64 0, .int .i64 1, .int .i64 2, .int .i64 (-1), .int .i64 1000000, .int .i64 1000001] 3)
    have HA := Lib.hid (spec_among g (N + 2) w2.heap.size 6 6 [0, 1, 2, -1, 1000000, 1000001] _ (hc2.kept hba) (by omega) rfl (by simp) (by omega) (fun j hj => by
      match j, hj with
      | 0, _ => simp [go_sem]
      | 1, _ => simp [go_sem]
      | 2, _ => simp [go_sem]
      | 3, _ => simp [go_sem]
      | 4, _ => simp [go_sem]
      | 5, _ => simp [go_sem]) (by omega) (by omega))
    have hb3 := hb2.kept hba
    have Hg3 := Lib.hid (grownC_below g2 hba)
    have hzb := hba.size
    clear HT Hb1 HB1 hg2 hb2 g2 hba hc2 HB2 Hg2
    go_wp2_with fail
    refine HA.out.mono ?_
    rintro e w4 ⟨i, rfl, hi, hc4, hg4⟩
    have hb4 := hb3.far hg4 (by simp; omega)
    have g4 := Hg3.out.trans hg4
    have hz4 := hg4.size
    have hba := (Below.refl w4.heap.size w4).alloc (Nat.le_refl _) (.cells #[.int .i64 0, .int .i64 1, .int .i64 2, .int .i64 4, .int .i64 (-1), .int .i64 999999] 3)
    have HA2 := Lib.hid (spec_among g (N + 4) w4.heap.size 6 6 [0, 1, 2, 4, -1, 999999] _ (hc4.kept hba) (by omega) rfl (by simp) (by omega) (fun j hj => by
      match j, hj with
      | 0, _ => simp [go_sem]
      | 1, _ => simp [go_sem]
      | 2, _ => simp [go_sem]
      | 3, _ => simp [go_sem]
      | 4, _ => simp [go_sem]
      | 5, _ => simp [go_sem]) (by omega) (by omega))
    have hb5 := hb4.kept hba
    have Hg5 := Lib.hid (grownC_below g4 hba)
    have hzb2 := hba.size
    clear HA Hg3 hi hc4 hg4 g4 hb3 hb4 hba
    go_wp2_with fail
    refine HA2.out.mono ?_
    rintro e w6 ⟨j, rfl, hj, hc6, hg6⟩
    have hb6 := hb5.far hg6 (by simp; omega)
    have HR : Hid (DrawnF w g (N + 100) (.returned (.agg #[.int .i64 i, .int .i64 j])) ((w6.setCell ⟨w.heap.size, 0, none⟩ (.int .i64 i)).setCell ⟨w.heap.size, 1, none⟩ (.int .i64 j))) := Lib.hid ⟨i, j, rfl, ((hc6.more (by omega)).put (by omega)).put (by omega), grownC_put (grownC_put (Hg5.out.trans hg6) (by omega)) (by omega)⟩
    obtain ⟨⟨c0, c1⟩, f0, f1⟩ := hb6
    clear HA2 Hg5 hj hc6 hg6 hb5
    go_wp2
    refine bodyPost_ret (v := .agg #[.int .i64 i, .int .i64 j]) ?_ rfl ?_
    · simp [results, Try.results144, go_sem, c0, c1]
    · exact HR.out
end Go.Proofs.Ytfkkbjbgjmaciaa
