/- Part 6 of 8 of the proof of the law WordsTold, no condition: one text out of several, since a claim holds 60 files at most. -/
import Derived.Test.YtfkkbjbgjmaciaaWordsToldP5
import Derived.Deep.LoopGhost
import Derived.IntWalk
import Derived.Laws.CopyOwn
import Derived.RegionTactic
import Derived.BigRegion
import Derived.Deep.RegionLaw
import Derived.Laws.Rows
import Derived.Great.BuildSlice
/- The model's poOf: ears are cut off a list of numbers. -/
namespace Go.Proofs.Ytfkkbjbgjmaciaa
set_option linter.unusedVariables false
open Go.RowKit

theorem SlI.cutIf0 {w : World} {B b c : Nat} {l : List Int} {a0 : Addr} (h : SlI w B (some ⟨b, 0, none⟩) l) (k : Nat) (hc : l.length ≤ c) : SlI w B (some (if c = k then a0 else ⟨b, k, none⟩)) (l.drop k) := by
  have := SlI.cutIf (a0 := a0) h k hc
  rwa [Nat.zero_add] at this
theorem list3 {l : List Int} (h : l.length = 0 + 3) : ∃ x y z, l = [x, y, z] := by
  match l, h with
  | [x, y, z], _ => exact ⟨x, y, z, rfl⟩
theorem heldApp {g : Nat} {w0 w w' : World} {o1 o2 : Nat} {v0 v1 : Value} {row : Option Nat} (h : w.cell? ⟨g, o1, none⟩ = some v0 ∧ w.cell? ⟨g, o2, none⟩ = some v1 ∧ Below w0.heap.size w0 w) (hg : w.grownBy w' row) (hr : ∀ k, row = some k → w0.heap.size ≤ k) (hne : ∀ k, row = some k → k ≠ g) :
    w'.cell? ⟨g, o1, none⟩ = some v0 ∧ w'.cell? ⟨g, o2, none⟩ = some v1 ∧ Below w0.heap.size w0 w' :=
  ⟨hg.cell h.1 (fun e => hne g e.symm rfl), hg.cell h.2.1 (fun e => hne g e.symm rfl), below_grown h.2.2 hg (Nat.le_refl _) hr⟩
theorem SlD.fresh (W : World) (y z : Int) (t : TypeId) : SlD (W.alloc (.cells #[.int .i64 y, .int .i64 z] t)).drew (W.heap.size + 1) (some ⟨W.heap.size, 0, none⟩) [(y, z)] :=
  SlD.one (by simp [go_sem]) (by simp [go_sem]) (Nat.lt_succ_self _)
theorem SlI.dr {w : World} {B : Nat} {A : Option Addr} {l : List Int} (h : SlI w B A l) : SlI w.drew B A l := h
theorem hu_sl {w : World} {B : Nat} {a b : Addr} {l : List Int} (e : a = b) (h : SlI w B (some a) l) : SlI w B (some b) l := e ▸ h
theorem SlI.drop0 {w : World} {B b : Nat} {l : List Int} (h : SlI w B (some ⟨b, 0, none⟩) l) (k : Nat) : SlI w B (some ⟨b, k, none⟩) (l.drop k) := fun h0 => by
  have hl : k < l.length := by simp at h0; omega
  obtain ⟨b', off', e, hb, hcell⟩ := h (by omega)
  cases e
  refine ⟨b, k, rfl, hb, fun j hj => ?_⟩
  have hj2 : k + j < l.length := by simp at hj; omega
  have e : (l.drop k).getD j 0 = l.getD (k + j) 0 := by simp [List.getD_eq_getElem?_getD]
  rw [e]
  have := hcell (k + j) hj2
  rwa [Nat.zero_add] at this
theorem SlI.noneOf {w : World} {B : Nat} {A : Option Addr} {l : List Int} (h : l.length = 0) : SlI w B A l := fun h0 => by omega
theorem SlI.cutIf1 {w : World} {B b c : Nat} {l : List Int} {a0 : Option Addr} (h : SlI w B (some ⟨b, 0, none⟩) l) (k : Nat) (hc : l.length ≤ c) : SlI w B (if c = k then a0 else some ⟨b, k, none⟩) (l.drop k) := fun h0 => by
  have hl : k < l.length := by simp at h0; omega
  rw [if_neg (by omega)]
  exact SlI.drop0 h k h0
theorem own_dr {w : World} {base e size n : Nat} {v : Value} {xs : List Value} (h : w.ownsRow base e size v n xs) (o : Obj) : (w.alloc o).drew.ownsRow base e size v n xs := (h.alloc o).drew
theorem spec_l1Own_n (A : Option Addr) (n c B : Nat) (l : List Int) (w : World) (hn : l.length = n) (h : SlI w B A l) (hB : B ≤ w.heap.size) (hl : n ≤ 1000000) :
    Calls Try.prog 114 #[.slice A n c] w fun e w' => ∃ A' c', e = .returned (.slice A' n c') ∧ w'.ownsRow w.heap.size 3 1 (.slice A' n c') n (ics l) ∧ Below w.heap.size w w' := by
  refine (spec_l1Own A n c B l w hn h hB hl).mono ?_
  rintro e w' ⟨A', c', rfl, ho, hb⟩
  subst hn
  exact ⟨A', c', rfl, ho, hb⟩
theorem own7form {w : World} {base e size n c : Nat} {A : Option Addr} {xs : List Value} (h : w.ownsRow base e size (.slice A (n + 3) c) (n + 3) xs) : ∃ g cap, Value.slice A (n + 3) c = .slice (some ⟨g, 0, none⟩) (n + 3) cap ∧ base ≤ g ∧ g < w.heap.size := h.form (by omega)
theorem step_own {ops : Array Oper} {o : Oper} {a : Act} {Q : Exit → Act → World → Prop} {K : Act → World → Prop} {E : Prop} (w : World) (hgd : o.guard = none) (x : Operand)
    (ho : o.op = .call { callee := .value (.func 114), args := #[x], argTypes := #[24] }) (A : Option Addr) (n c B : Nat) (l : List Int) (hx : a.eval x = .slice A n c) (hn : l.length = n) (h : SlI w B A l) (hB : B ≤ w.heap.size) (hl : n ≤ 1000000)
    (hK : ∀ A' c' w', w'.ownsRow w.heap.size 3 1 (.slice A' n c') n (ics l) → Below w.heap.size w w' → K (a.put o.dst (.slice A' n c')) w') :
    if Region.wanted o (yielded ops a.tmps) = true then Oper.wp Try.prog o a w K Q else E := by
  have hw : Region.wanted o (yielded ops a.tmps) = true := by simp [Region.wanted, hgd]
  rw [if_pos hw]
  have hrun : (execOp a.eval o).run Try.prog w = .ok (.enter 114 #[.slice A n c]) w := by
    have h1 : (#[x].map a.eval) = #[.slice A n c] := by simp [hx]
    unfold execOp
    simp only [ho, resolve, invoke, h1, Sem.run_bind, Result.andThen_ok, Act.eval]
    go_simp
  unfold Oper.wp
  rw [hrun, Oper.upon_enter]
  refine (spec_l1Own_n A n c B l w hn h hB hl).mono fun e w' hh => ?_
  obtain ⟨A', c', rfl, h1, h2⟩ := hh
  exact hK A' c' w' h1 h2
/-- numbers within bounds -/
def In12 (l : List Int) : Prop := ∀ i, i < l.length → 1 ≤ l.getD i 0 ∧ l.getD i 0 ≤ 12
/-- what holds at the head of the model's search -/
def Cuts (w : World) (q : List Int) (f : Nat) (vl vc vo : Value) (wr : World) : Prop :=
  ∃ (L C : List Int) (out : List (Int × Int)) (gl cl gc cc : Nat) (Ao : Option Addr) (co : Nat), vl = .slice (some ⟨gl, 0, none⟩) (f + 3) cl ∧ vc = .slice (some ⟨gc, 0, none⟩) (f + 3) cc ∧ vo = .slice Ao out.length co ∧
    L.length = f + 3 ∧ C.length = f + 3 ∧ f ≤ 9 ∧ In12 L ∧ out.length + f ≤ 9 ∧ ofS f L C out = poOfS q ∧ gl ≠ gc ∧
    wr.ownsRow w.heap.size 3 1 (.slice (some ⟨gl, 0, none⟩) (f + 3) cl) (f + 3) (ics L) ∧ wr.ownsRow w.heap.size 3 1 (.slice (some ⟨gc, 0, none⟩) (f + 3) cc) (f + 3) (ics C) ∧
    wr.ownsRow w.heap.size 161 2 (.slice Ao out.length co) out.length (dcs out) ∧ Below w.heap.size w wr

/-- corners numbered up to k, in a row behind block b -/
def Nums (w : World) (b k : Nat) (v : Value) (wr : World) : Prop :=
  ∃ A' c', v = .slice A' k c' ∧ wr.ownsRow b 3 1 (.slice A' k c') k (ics (iota k)) ∧ Below b w wr

set_option maxRecDepth 100000 in
set_option maxHeartbeats 6400000 in
theorem spec_poOf (A : Option Addr) (c B : Nat) (l : List Int) (w : World) (h : SlI w B A l) (hB : B ≤ w.heap.size) (hl : l.length ≤ 1048576) :
    Calls Try.prog 175 #[.slice A l.length c] w (RetD w (poOfS l).1 (poOfS l).2) := by
  cases hp : poB l.length
  · have hno : poOfS l = ([], false) := by unfold poOfS; rw [if_neg]; rw [hp]; simp
    have hres : RetD w (poOfS l).1 (poOfS l).2 (.returned (.tuple #[.slice none 0 0, .bool false])) w := by
      rw [hno]
      exact ⟨none, 0, rfl, World.ownsRow_nil _ _ _ _, Below.refl _ _⟩
    have Hres := Lib.hid hres
    clear hres h hno
    go_enter Try.func175, Try.ntmps175
    go_wp2_with (go_at_call 185; ((with_reducible refine (spec_poIs _ _ _ hp).mono ?_); rintro e w' ⟨rfl, rfl⟩))
    go_ret2
    exact Hres.out
  · have hn : 3 ≤ l.length ∧ l.length ≤ 12 := by
      unfold poB at hp
      simp at hp
      omega
    obtain ⟨hn3, hn12⟩ := hn
    go_enter Try.func175, Try.ntmps175
    go_wp2_with (go_at_call 185; ((with_reducible refine (spec_poIs _ _ _ hp).mono ?_); rintro e w' ⟨rfl, rfl⟩))
    refine (spec_l1All A c B l 1 12 _ h (by omega)).mono ?_
    rintro e w1 ⟨rfl, rfl⟩
    cases ha : allB l 1 12
    · have hno : poOfS l = ([], false) := by unfold poOfS; rw [if_neg]; rw [ha]; simp
      have hres : RetD w (poOfS l).1 (poOfS l).2 (.returned (.tuple #[.slice none 0 0, .bool false])) w := by
        rw [hno]
        exact ⟨none, 0, rfl, World.ownsRow_nil _ _ _ _, Below.refl _ _⟩
      have Hres := Lib.hid hres
      clear hres h hno
      go_wp2
      go_ret2
      exact Hres.out
    · have Hp := Lib.hid hp
      have Ha := Lib.hid ha
      clear hp ha
      go_wp2_with fail
      refine (spec_l1Own A l.length c B l _ rfl h hB (by omega)).mono ?_
      rintro e w1 ⟨Al, cl, rfl, ol1, hb1⟩
      obtain ⟨gl, capl, hv, _, _⟩ := ol1.form (by omega)
      cases hv
      have Hol := Lib.hid ol1
      have Hb1 := Lib.hid hb1
      clear ol1 hb1 h
      go_wp2
      go_loopw [5, 6, 27] (fun v _ i wr => ∃ k : Nat, k ≤ l.length ∧ i = .int .i64 k ∧ Nums w1 w1.heap.size k v wr) (fun _ _ i _ => l.length - (intOf i).toNat)
      case atStart => exact ⟨0, Nat.zero_le _, rfl, some ⟨w1.heap.size, 0, none⟩, 0, rfl, own_madeI w1 (Nat.le_refl _), (Below.refl _ _).alloc (Nat.le_refl _) _⟩
      case round =>
        obtain ⟨k, hk, rfl, A', c', rfl, ho, hb⟩ := hrel
        have hob := ho.lt
        have Hob := Lib.hid hob
        have hsz := hb.size
        clear hob
        by_cases hlt : k < l.length
        · have hst := iota_succ k
          have hLl := iota_length k
          have Hst := Lib.hid hst
          have HLl := Lib.hid hLl
          generalize iota k = L at *
          have own2 := ho.alloc (.cells #[.int .i64 k] 3)
          have hb2 := hb.alloc hsz (.cells #[.int .i64 k] 3)
          clear hst hLl ho hb
          go_wp2_with (at_builtin; refine append1In _ rfl _ _ rfl w1.heap.size (.slice A' k c') k L HLl.out rfl own2 wr.heap.size k rfl ?c1 ?c2 ?c3 ?_; (case c1 => simp [go_sem]); (case c2 => omega); (case c3 => simp; omega); intro A3 c3 w3 own3 hg3)
          have hb3 := hb2.grown hg3 hb2.size (fun j hj => (Hob.out j hj).1)
          have hE : Nums w1 w1.heap.size (k + 1) (.slice A3 (k + 1) c3) w3 := ⟨A3, c3, rfl, by rw [Hst.out]; exact own3, hb3⟩
          have HE := Lib.hid hE
          clear hE own3 hg3 hb3 hb2 own2
          go_wp2
          go_roundw
          case rel => exact ⟨k + 1, by omega, by go_num, HE.out⟩
          case measure => simp [intOf]; omega
        · obtain rfl : k = l.length := by omega
          obtain ⟨gc, capc, hv, hgc, _⟩ := ho.form (by omega)
          cases hv
          have hgl := (Hol.out.lt _ rfl).2
          have hS : Cuts w l (l.length - 3) (.slice (some ⟨gl, 0, none⟩) l.length cl) (.slice (some ⟨gc, 0, none⟩) l.length c') (.slice none 0 0) wr := by
            have e : l.length - 3 + 3 = l.length := by omega
            refine ⟨l, iota l.length, [], gl, cl, gc, c', none, 0, by rw [e], by rw [e], rfl, by omega, by rw [iota_length]; omega, by omega, ?_, by simp; omega, ?_, by omega, ?_, ?_, World.ownsRow_nil _ _ _ _, ?_⟩
            · exact fun i hi => allB_iff.1 Ha.out i hi
            · unfold poOfS
              rw [if_pos ⟨Hp.out, Ha.out⟩]
            · rw [e]; exact own_kept Hol.out hb
            · rw [e]; exact ho.mono Hb1.out.size
            · exact below_kept Hb1.out (Nat.le_refl _) hb
          have HS := Lib.hid hS
          clear hS ho hb Hol Hb1 Hob
          go_wp2
          go_loopg [4, 5, 7, 8, 9, 10, 11, 12] (l.length - 3) (fun f s4 s5 s7 s8 s9 s10 s11 s12 wx => Cuts w l f s4 s5 s7 wx)
          case atStart => exact HS.out
          case round =>
            clear HS
            obtain ⟨L, C, out, gl, cl, gc, cc, Ao, co, rfl, rfl, rfl, hL, hC, hf9, h12, ho9, hof, hne, hol, hoc, hoo, hb⟩ := hrel
            have HL := Lib.hid hL
            have HC := Lib.hid hC
            have H12 := Lib.hid h12
            have Hof := Lib.hid hof
            have Hol := Lib.hid hol
            have Hoc := Lib.hid hoc
            have Hoo := Lib.hid hoo
            have Hb := Lib.hid hb
            cases gk with
            | zero =>
              obtain ⟨x, y, z, rfl⟩ := list3 hL
              have c0 : wr.cell? ⟨gl, 0, none⟩ = some (.int .i64 x) := by rw [hol.cellAt 0 (by omega)]; rfl
              have c1 : wr.cell? ⟨gl, 1, none⟩ = some (.int .i64 y) := by rw [hol.cellAt 1 (by omega)]; rfl
              have c2 : wr.cell? ⟨gl, 2, none⟩ = some (.int .i64 z) := by rw [hol.cellAt 2 (by omega)]; rfl
              have hsd := SlD.of_own hoo
              have hfin : ofS 0 [x, y, z] C out = (sortD out, decide (x = 1 ∧ y = 1 ∧ z = 1)) := by
                unfold ofS
                have : ([x, y, z] = [1, 1, 1]) ↔ (x = 1 ∧ y = 1 ∧ z = 1) := by simp
                rw [decide_eq_decide.2 this]
              rw [hof] at hfin
              have Hfin := Lib.hid hfin
              clear hfin hL hC h12 hof hol hoc hoo
              go_wp2_with fail
              refine (spec_poSorted Ao co _ out _ hsd (Nat.le_refl _) (by omega)).mono ?_
              rintro e w5 ⟨A9, c9, rfl, o9, b9⟩
              have hd9 := below_kept hb (Nat.le_refl _) b9
              have hr9 := o9.mono hb.size
              have d0 := cell_kept b9 c0
              have d1 := cell_kept b9 c1
              have d2 := cell_kept b9 c2
              have Hd9 := Lib.hid hd9
              have Hr9 := Lib.hid hr9
              have hres : ∀ b, decide (x = 1 ∧ y = 1 ∧ z = 1) = b → ∀ wz, Below w5.heap.size w5 wz → RetD w (poOfS l).1 (poOfS l).2 (.returned (.tuple #[.slice A9 (sortD out).length c9, .bool b])) wz := by
                intro b hbb wz hwz
                rw [Hfin.out, hbb]
                exact ⟨A9, c9, rfl, own_kept Hr9.out hwz, below_kept Hd9.out (Nat.le_refl _) hwz⟩
              have Hres := Lib.hid hres
              clear hres hd9 hr9 b9 o9 hb c0 c1 c2 hsd
              by_cases hx : x = 1
              · subst hx
                by_cases hy : y = 1
                · subst hy
                  by_cases hz : z = 1
                  · subst hz
                    go_wp2
                    go_quiet (fail)
                    go_wp2
                    go_ret2
                    exact Hres.out true rfl _ (below_drewN (Below.refl _ _) _)
                  · have hz' : (z == 1) = false := by simpa using hz
                    go_wp2
                    go_quiet (fail)
                    go_wp2
                    go_ret2
                    exact Hres.out false (by simp [hz]) _ (below_drewN (Below.refl _ _) _)
                · have hy' : (y == 1) = false := by simpa using hy
                  go_wp2
                  go_quiet (fail)
                  go_wp2
                  go_ret2
                  exact Hres.out false (by simp [hy]) _ (below_drewN (Below.refl _ _) _)
              · have hx' : (x == 1) = false := by simpa using hx
                go_wp2
                go_quiet (fail)
                go_wp2
                go_ret2
                exact Hres.out false (by simp [hx]) _ (below_drewN (Below.refl _ _) _)
            | succ f =>
              obtain ⟨m, hm⟩ : ∃ m, m = f + 1 + 3 := ⟨_, rfl⟩
              rw [← hm] at HL HC Hol Hoc ⊢
              have Hm := Lib.hid hm
              have m2 : (3 : Int) < (m : Int) := by omega
              have m3 : m ≤ 12 := by omega
              have m4 : 4 ≤ m := by omega
              clear hL hC h12 hof hol hoc hoo hb hm
              go_wp2_with fail
              have hlm : L.length = m := HL.out
              have Hlm := Lib.hid hlm
              clear hlm
              go_loop [8, 9, 10, 40] (fun s8 _ _ i => ∃ k : Nat, k ≤ m ∧ i = .int .i64 k ∧ s8 = .int .i64 (at1 L k)) (fun _ _ _ i => m - (intOf i).toNat)
              case atStart => exact ⟨0, Nat.zero_le _, rfl, rfl⟩
              case round =>
                obtain ⟨k, hk, rfl, rfl⟩ := hrel
                have hatb := at1_lt L k
                by_cases hlt : k < m
                · have n0 : wr.cell? ⟨gl, k, none⟩ = some (.int .i64 (L.getD k 0)) := by rw [Hol.out.cellAt k (by omega), ics_get _ _ (by rw [HL.out]; exact hlt)]
                  have i0 : (0 : Int) ≤ (k : Int) := by omega
                  have i1 : (k : Int) < (m : Int) := by omega
                  have hst : at1 L (k + 1) = if L.getD k 0 = 1 ∧ at1 L k < 0 then (k : Int) else at1 L k := rfl
                  have Hst := Lib.hid hst
                  clear hst
                  generalize L.getD k 0 = x at *
                  generalize at1 L k = y at *
                  by_cases hx : x = 1
                  · subst hx
                    by_cases hy : y < 0
                    · go_wp2
                      go_round
                      case rel => exact ⟨k + 1, by omega, by go_num, by rw [Hst.out, if_pos ⟨rfl, hy⟩]⟩
                      case measure => simp [intOf]; omega
                    · go_wp2
                      go_round
                      case rel => exact ⟨k + 1, by omega, by go_num, by rw [Hst.out, if_neg (by omega)]⟩
                      case measure => simp [intOf]; omega
                  · have hx' : (x == 1) = false := by simpa using hx
                    go_wp2
                    go_round
                    case rel => exact ⟨k + 1, by omega, by go_num, by rw [Hst.out, if_neg (by intro h; exact hx h.1)]⟩
                    case measure => simp [intOf]; omega
                · obtain rfl : k = m := by omega
                  by_cases hneg : at1 L k < 0
                  · have hno : poOfS l = ([], false) := by
                      rw [← Hof.out]
                      unfold ofS
                      rw [HL.out, if_pos hneg]
                    have hres : RetD w (poOfS l).1 (poOfS l).2 (.returned (.tuple #[.slice none 0 0, .bool false])) wr := by
                      rw [hno]
                      exact ⟨none, 0, rfl, World.ownsRow_nil _ _ _ _, Hb.out⟩
                    have Hres := Lib.hid hres
                    clear hres hno
                    go_wp2
                    go_ret2
                    exact Hres.out
                  · have hone := at1_one L k (by omega)
                    have hofs := Hof.out
                    unfold ofS at hofs
                    rw [HL.out, if_neg hneg] at hofs
                    have hlt2 : (at1 L k).toNat < k := by omega
                    have hkv : at1 L k = ((at1 L k).toNat : Int) := by omega
                    generalize (at1 L k).toNat = p at *
                    obtain ⟨a1, a2, a3, a4, a5⟩ := around p k m4 hlt2
                    have hlow : lowB L p = decide ((dec2 L p).getD ((p + k - 1) % k) 0 < 1 ∨ (dec2 L p).getD ((p + 1) % k) 0 < 1) := by unfold lowB; rw [HL.out]
                    have hdec : dec2 L p = decr (decr L ((p + k - 1) % k)) ((p + 1) % k) := by unfold dec2; rw [HL.out]
                    have hear : earD C k p = (min (C.getD ((p + k - 1) % k) 0) (C.getD ((p + 1) % k) 0), max (C.getD ((p + k - 1) % k) 0) (C.getD ((p + 1) % k) 0)) := rfl
                    have ha0 : ((p : Int) + (k : Int) - 1).tmod (k : Int) = (((p + k - 1) % k : Nat) : Int) := by
                      rw [show (p : Int) + (k : Int) - 1 = ((p + k - 1 : Nat) : Int) by omega]
                      rfl
                    have hb0 : ((p : Int) + 1).tmod (k : Int) = (((p + 1) % k : Nat) : Int) := by
                      rw [show (p : Int) + 1 = ((p + 1 : Nat) : Int) by omega]
                      rfl
                    have hxa := H12.out ((p + k - 1) % k) (by rw [HL.out]; exact a1)
                    have hxb := H12.out ((p + 1) % k) (by rw [HL.out]; exact a2)
                    generalize (p + k - 1) % k = a at *
                    generalize (p + 1) % k = b at *
                    have Hofs := Lib.hid hofs
                    have Hlow := Lib.hid hlow
                    have Hdec := Lib.hid hdec
                    have Hear := Lib.hid hear
                    have Hone := Lib.hid hone
                    clear hofs hlow hdec hear hone hneg hatb
                    rw [hkv]
                    have Hkv := Lib.hid hkv
                    clear hkv
                    have p0 : (0 : Int) ≤ (p : Int) := by omega
                    have p1 : ¬ (p : Int) < 0 := by omega
                    have hw1 : IntKind.i64.wrap ((p : Int) + (k : Int)) = (p : Int) + (k : Int) := IntWalk.i64_in _ (by omega)
                    have hw2 : IntKind.i64.wrap ((p : Int) + (k : Int) - 1) = (p : Int) + (k : Int) - 1 := IntWalk.i64_in _ (by omega)
                    have hw3 : IntKind.i64.wrap ((p : Int) + 1) = (p : Int) + 1 := IntWalk.i64_in _ (by omega)
                    go_wp2
                    go_quiet (fail)
                    clear hw1 hw2 hw3 ha0 hb0
                    have hol1 := own_drewN Hol.out nq
                    have hoc1 := own_drewN Hoc.out nq
                    have hoo1 := own_drewN Hoo.out nq
                    have hb1 := below_drewN Hb.out nq
                    clear Hol Hoc Hoo Hb
                    generalize wr.drewN nq = W1 at *
                    have ca : W1.cell? ⟨gl, a, none⟩ = some (.int .i64 (L.getD a 0)) := by rw [hol1.cellAt a (by omega), ics_get _ _ (by rw [HL.out]; exact a1)]
                    have fa := hol1.frozenAt a
                    obtain ⟨hol2, hg2⟩ := hol1.stored a (.int .i64 (L.getD a 0 - 1))
                    rw [ics_set, show L.set a (L.getD a 0 - 1) = decr L a from rfl] at hol2
                    have hoc2 := own_far hoc1 hg2 (by intro k hk e; simp [Value.ownBlock] at hk; injection e with e; omega)
                    have hoo2 := own_far hoo1 hg2 (own_ne hoo1 hol1 (by decide))
                    have hgw : w.heap.size ≤ gl := (hol1.lt _ rfl).1
                    have hb2 := below_grown hb1 hg2 (Nat.le_refl _) (fun k hk => by injection hk with hk; omega)
                    have cb : (W1.setCell ⟨gl, a, none⟩ (.int .i64 (L.getD a 0 - 1))).cell? ⟨gl, b, none⟩ = some (.int .i64 ((decr L a).getD b 0)) := by rw [hol2.cellAt b (by omega), ics_get _ _ (by rw [decr_length, HL.out]; exact a2)]
                    have fb := hol2.frozenAt b
                    have hyb : 1 ≤ (decr L a).getD b 0 ∧ (decr L a).getD b 0 ≤ 12 := by
                      rw [decr_get L a b (by rw [HL.out]; exact a2), if_neg (by omega)]
                      exact hxb
                    obtain ⟨hol3, hg3⟩ := hol2.stored b (.int .i64 ((decr L a).getD b 0 - 1))
                    rw [ics_set, show (decr L a).set b ((decr L a).getD b 0 - 1) = decr (decr L a) b from rfl, ← Hdec.out] at hol3
                    have hoc3 := own_far hoc2 hg3 (by intro k hk e; simp [Value.ownBlock] at hk; injection e with e; omega)
                    have hoo3 := own_far hoo2 hg3 (own_ne hoo2 hol2 (by decide))
                    have hb3 := below_grown hb2 hg3 (Nat.le_refl _) (fun k hk => by injection hk with hk; omega)
                    have hDl : (dec2 L p).length = k := by rw [dec2_length]; exact HL.out
                    have HDl := Lib.hid hDl
                    clear hDl
                    have ea : ((W1.setCell ⟨gl, a, none⟩ (.int .i64 (L.getD a 0 - 1))).setCell ⟨gl, b, none⟩ (.int .i64 ((decr L a).getD b 0 - 1))).cell? ⟨gl, a, none⟩ = some (.int .i64 ((dec2 L p).getD a 0)) := by rw [hol3.cellAt a (by omega), ics_get _ _ (by rw [HDl.out]; exact a1)]
                    have eb : ((W1.setCell ⟨gl, a, none⟩ (.int .i64 (L.getD a 0 - 1))).setCell ⟨gl, b, none⟩ (.int .i64 ((decr L a).getD b 0 - 1))).cell? ⟨gl, b, none⟩ = some (.int .i64 ((dec2 L p).getD b 0)) := by rw [hol3.cellAt b (by omega), ics_get _ _ (by rw [HDl.out]; exact a2)]
                    have hge : ∀ i, i < k → (dec2 L p).getD i 0 = (dec2 L p).getD i 0 := fun _ _ => rfl
                    obtain ⟨W3, hW3⟩ : ∃ W3, W3 = (W1.setCell ⟨gl, a, none⟩ (.int .i64 (L.getD a 0 - 1))).setCell ⟨gl, b, none⟩ (.int .i64 ((decr L a).getD b 0 - 1)) := ⟨_, rfl⟩
                    rw [← hW3] at hol3 hoc3 hoo3 hb3
                    have HW3 := Lib.hid hW3
                    have Hol3 := Lib.hid hol3
                    have Hoc3 := Lib.hid hoc3
                    have Hoo3 := Lib.hid hoo3
                    have Hb3 := Lib.hid hb3
                    have Hmem : Hid (∀ i, i < k → i ≠ p → lowB L p = false → 1 ≤ (dec2 L p).getD i 0 ∧ (dec2 L p).getD i 0 ≤ 12) := Lib.hid (fun i hi _ hlo => by
                      have h1 := dec2_get L p i (by rw [HL.out]; exact m4) (by rw [HL.out]; exact hlt2) (by rw [HL.out]; exact hi)
                      have h2 := H12.out i (by rw [HL.out]; exact hi)
                      rw [Hlow.out] at hlo
                      simp only [decide_eq_false_iff_not, not_or] at hlo
                      by_cases e1 : i = a
                      · subst e1; omega
                      · by_cases e2 : i = b
                        · subst e2; omega
                        · have e3 : (dec2 L p).getD i 0 = L.getD i 0 := by
                            rw [Hdec.out, decr_get _ _ _ (by rw [decr_length, HL.out]; exact hi), decr_get _ _ _ (by rw [HL.out]; exact hi), if_neg (by omega), if_neg (by omega)]
                          rw [e3]; exact h2)
                    have hlowB : lowB L p = decide ((dec2 L p).getD a 0 < 1 ∨ (dec2 L p).getD b 0 < 1) := Hlow.out
                    have HlowB := Lib.hid hlowB
                    obtain ⟨_, _⟩ := hxa
                    obtain ⟨_, _⟩ := hyb
                    clear hol1 hol2 hol3 hoc1 hoc2 hoc3 hoo1 hoo2 hoo3 hg2 hg3 hb1 hb2 hb3 hge hW3 hlowB hxb Hdec Hlow
                    generalize L.getD a 0 = x at *
                    generalize (decr L a).getD b 0 = y at *
                    have b0 : (0 : Int) ≤ (a : Int) := by omega
                    have b1 : (a : Int) < (k : Int) := by omega
                    have b2 : (0 : Int) ≤ (b : Int) := by omega
                    have b3 : (b : Int) < (k : Int) := by omega
                    have hfail : lowB L p = true → RetD w (poOfS l).1 (poOfS l).2 (.returned (.tuple #[.slice none 0 0, .bool false])) W3 := fun hlo => by
                      have hno : poOfS l = ([], false) := by rw [← Hofs.out, if_pos hlo]
                      rw [hno]
                      exact ⟨none, 0, rfl, World.ownsRow_nil _ _ _ _, Hb3.out⟩
                    have Hfail := Lib.hid hfail
                    clear hfail
                    by_cases h1 : (dec2 L p).getD a 0 < 1
                    · have hlo : lowB L p = true := by rw [HlowB.out]; exact decide_eq_true (Or.inl h1)
                      have hres := Hfail.out hlo
                      have Hres := Lib.hid hres
                      clear hres hlo
                      generalize (dec2 L p).getD a 0 = xa at *
                      generalize (dec2 L p).getD b 0 = xb at *
                      go_wp2
                      rw [← HW3.out]
                      go_ret2
                      exact Hres.out
                    · by_cases h2 : (dec2 L p).getD b 0 < 1
                      · have hlo : lowB L p = true := by rw [HlowB.out]; exact decide_eq_true (Or.inr h2)
                        have hres := Hfail.out hlo
                        have Hres := Lib.hid hres
                        clear hres hlo
                        generalize (dec2 L p).getD a 0 = xa at *
                        generalize (dec2 L p).getD b 0 = xb at *
                        go_wp2
                        rw [← HW3.out]
                        go_ret2
                        exact Hres.out
                      · have hlo : lowB L p = false := by rw [HlowB.out]; exact decide_eq_false (fun h => h.elim h1 h2)
                        have Hlo := Lib.hid hlo
                        clear hlo
                        generalize (dec2 L p).getD a 0 = xa at *
                        generalize (dec2 L p).getD b 0 = xb at *
                        go_wp2_with fail
                        rw [← HW3.out]
                        clear ea eb HW3 ca cb fa fb
                        have ca : W3.cell? ⟨gc, a, none⟩ = some (.int .i64 (C.getD a 0)) := by rw [Hoc3.out.cellAt a (by omega), ics_get _ _ (by rw [HC.out]; exact a1)]
                        have cb : W3.cell? ⟨gc, b, none⟩ = some (.int .i64 (C.getD b 0)) := by rw [Hoc3.out.cellAt b (by omega), ics_get _ _ (by rw [HC.out]; exact a2)]
                        generalize C.getD a 0 = u at *
                        generalize C.getD b 0 = v at *
                        have Hnc : Hid (∀ k, (Value.slice Ao out.length co).ownBlock = some k → k ≠ gc) := Lib.hid (fun k hk e => own_ne Hoo3.out Hoc3.out (by decide) k hk (by rw [e]; rfl))
                        have Hz3 := Lib.hid Hb3.out.size
                        have hout6 : out.length ≤ 1000000 := by omega
                        have h16 : 1 ≤ 1000000 := by omega
                        go_region_held3 (fun w' => w'.cell? ⟨gc, a, none⟩ = some (.int .i64 u) ∧ w'.cell? ⟨gc, b, none⟩ = some (.int .i64 v) ∧ Below w.heap.size w w')
                          (first
                            | assumption
                            | exact ⟨ca, cb, Hb3.out.drew⟩
                            | exact drew2 (kept2 ⟨ca, cb, Hb3.out⟩ ((Below.refl _ _).alloc (Nat.le_refl _) _) (Nat.le_refl _))
                            | exact kept2 (w := W3.drew) ⟨ca, cb, Hb3.out.drew⟩ ((Below.refl _ _).alloc (Nat.le_refl _) _) (Nat.le_refl _)
                            | (refine heldApp ?_ hg5 (fun j hj => (Hoo3.out.lt j hj).1) Hnc.out; assumption))
                          (first
                            | (go_at_call 111; refine (spec_l1Least _ _ _).mono ?_; rintro e w' ⟨rfl, rfl⟩)
                            | (go_at_call 179; refine (spec_l1Most _ _ _).mono ?_; rintro e w' ⟨rfl, rfl⟩)
                            | (refine step_appendN _ rfl _ _ rfl w.heap.size (.slice Ao out.length co) out.length out rfl rfl ?_ (some ⟨W3.heap.size, 0, none⟩) 1 1 [(min u v, max u v)] (W3.heap.size + 1) (out.length + 1) rfl rfl rfl ?_ ?_ ?_ ?_ ?_
                               · (first | exact (Hoo3.out.alloc _).drew | exact (Hoo3.out.drew).alloc _)
                               · exact SlD.fresh W3 _ _ _
                               · exact hout6
                               · exact h16
                               · exact (Hb3.out.alloc Hz3.out _).drew.size
                               intro A5 c5 w5 own5 hg5))
                        rename_i hS5
                        have hb5 := hS5.2.2
                        have hol5 := own_far (own_dr Hol3.out _) hg5 (own_ne Hol3.out Hoo3.out (by decide))
                        have hoc5 := own_far (own_dr Hoc3.out _) hg5 (own_ne Hoc3.out Hoo3.out (by decide))
                        have Hol5 := Lib.hid hol5
                        have Hoc5 := Lib.hid hoc5
                        have Hoo5 := Lib.hid own5
                        have Hb5 := Lib.hid hb5
                        have hcl : k ≤ cl := own_capI hol5
                        have hcc : k ≤ cc := own_capI hoc5
                        have HDlT : Hid (((dec2 L p).take p).length = p) := Lib.hid (by rw [List.length_take, HDl.out]; omega)
                        have HDlD : Hid (((dec2 L p).drop (p + 1)).length = k - (p + 1)) := Lib.hid (by rw [List.length_drop, HDl.out])
                        have HDlC : Hid ((dec2 L p).length ≤ cl) := Lib.hid (by rw [HDl.out]; exact hcl)
                        have HCT : Hid ((C.take p).length = p) := Lib.hid (by rw [List.length_take, HC.out]; omega)
                        have HCD : Hid ((C.drop (p + 1)).length = k - (p + 1)) := Lib.hid (by rw [List.length_drop, HC.out])
                        have HCC : Hid (C.length ≤ cc) := Lib.hid (by rw [HC.out]; exact hcc)
                        have q1 : (p : Int) ≤ (cl : Int) := by omega
                        have q2 : (0 : Int) ≤ (p : Int) + 1 := by omega
                        have q3 : (p : Int) + 1 ≤ (k : Int) := by omega
                        have q4 : (k : Int) ≤ (cl : Int) := by omega
                        have q5 : (p : Int) ≤ (cc : Int) := by omega
                        have q6 : (k : Int) ≤ (cc : Int) := by omega
                        have hpw : IntKind.i64.wrap ((p : Int) + 1) = (p : Int) + 1 := IntWalk.i64_in _ (by omega)
                        have hp6 : p ≤ 1000000 := by omega
                        have hk6 : k - (p + 1) ≤ 1000000 := by omega
                        have HN26 : Hid (f + 3 = p + (k - (p + 1))) := Lib.hid (by have := Hm.out; omega)
                        have hpn : ((p : Int) + 1).toNat = p + 1 := by omega
                        have HZ26 : Hid (cl = p + 1 → ((dec2 L p).drop (p + 1)).length = 0) := Lib.hid (fun e => by rw [List.length_drop, HDl.out]; omega)
                        have HZ27 : Hid (cc = p + 1 → (C.drop (p + 1)).length = 0) := Lib.hid (fun e => by rw [List.length_drop, HC.out]; omega)
                        clear hS5 hb5 hol5 hoc5 own5 hg5 ca cb
                        go_wp2_with fail
                        go_region_held3 (fun w' => Below w5.heap.size w5 w')
                          (first
                            | assumption
                            | exact (Below.refl _ _).drew
                            | exact b6
                            | exact below_kept (Below.refl _ _).drew (Nat.le_refl _) b6
                            | (refine below_grown ?_ g7 (Nat.le_refl _) (fun j hj => (o6.lt j hj).1); assumption))
                          (first
                            | (refine step_own w5.drew rfl _ rfl (some ⟨gl, 0, none⟩) p _ w5.heap.size ((dec2 L p).take p) rfl HDlT.out ((SlI.of_own Hol5.out).take p).dr (Nat.le_refl _) hp6 ?_; intro A6 c6 w6 o6 b6)
                            | (refine step_appendNI _ rfl _ _ rfl w5.heap.size (.slice A6 p c6) p ((dec2 L p).take p) HDlT.out rfl o6 _ (k - (p + 1)) _ ((dec2 L p).drop (p + 1)) w5.heap.size (f + 3) ?_ rfl HDlD.out ?_ ?_ ?_ b6.size ?_
                               · exact HN26.out
                               · first
                                 | exact (SlI.cutIf1 (SlI.of_own Hol5.out) (p + 1) HDlC.out).dr.below b6
                               · exact hp6
                               · exact hk6
                               intro A7 c7 w7 o7 g7))
                        generalize (if cl = p + 1 then some (⟨gl, 0, none⟩ : Addr) else some ⟨gl, p + 1, none⟩) = u121
                        rename_i hS7
                        obtain ⟨gl7, cap7, hv7, hgl7, _⟩ := own7form o7
                        cases hv7
                        have hoc7 := own_kept Hoc5.out hS7
                        have hoo7 := own_kept Hoo5.out hS7
                        have hb7 := below_kept Hb5.out (Nat.le_refl _) hS7
                        have hz7 : gl7 < w7.heap.size := (o7.lt _ rfl).2
                        have Hol7 : Hid (w7.ownsRow w5.heap.size 3 1 (.slice (some ⟨gl7, 0, none⟩) (f + 3) c7) (f + 3) (ics (cutL L p))) := Lib.hid (by
                          unfold cutL
                          rw [List.eraseIdx_eq_take_drop_succ]
                          exact o7)
                        have Hoc7 := Lib.hid hoc7
                        have Hoo7 := Lib.hid hoo7
                        have Hb7 := Lib.hid hb7
                        clear hS7 hoc7 hoo7 hb7 o7 g7 o6 b6 Hol5 Hoc5 Hoo5
                        go_wp2_with fail
                        go_region_held3 (fun w' => Below w7.heap.size w7 w')
                          (first
                            | assumption
                            | exact (Below.refl _ _).drew
                            | exact b8
                            | exact below_kept (Below.refl _ _).drew (Nat.le_refl _) b8
                            | (refine below_grown ?_ g9 (Nat.le_refl _) (fun j hj => (o8.lt j hj).1); assumption))
                          (first
                            | (refine step_own w7.drew rfl _ rfl (some ⟨gc, 0, none⟩) p _ w7.heap.size (C.take p) rfl HCT.out ((SlI.of_own Hoc7.out).take p).dr (Nat.le_refl _) hp6 ?_; intro A8 c8 w8 o8 b8)
                            | (refine step_appendNI _ rfl _ _ rfl w7.heap.size (.slice A8 p c8) p (C.take p) HCT.out rfl o8 _ (k - (p + 1)) _ (C.drop (p + 1)) w7.heap.size (f + 3) ?_ rfl HCD.out ?_ ?_ ?_ b8.size ?_
                               · exact HN26.out
                               · first
                                 | exact (SlI.cutIf1 (SlI.of_own Hoc7.out) (p + 1) HCC.out).dr.below b8
                               · exact hp6
                               · exact hk6
                               intro A9 c9 w9 o9 g9))
                        generalize (if cc = p + 1 then some (⟨gc, 0, none⟩ : Addr) else some ⟨gc, p + 1, none⟩) = u130
                        rename_i hS9
                        obtain ⟨gc9, cap9, hv9, hgc9, _⟩ := own7form o9
                        cases hv9
                        have hE : Cuts w l f (.slice (some ⟨gl7, 0, none⟩) (f + 3) c7) (.slice (some ⟨gc9, 0, none⟩) (f + 3) c9) (.slice A5 (out.length + 1) c5) w9 := by
                          have hkk := Hm.out
                          have hz5 := Hb5.out.size
                          have hcut : (cutL L p).length = f + 3 := by rw [cutL_length L p (by rw [HL.out]; exact hlt2), HL.out]; omega
                          refine ⟨cutL L p, C.eraseIdx p, out ++ [(min u v, max u v)], gl7, c7, gc9, c9, A5, c5, rfl, rfl, by simp, hcut, ?_, by omega, ?_, by simp; omega, ?_, by omega, ?_, ?_, ?_, ?_⟩
                          · rw [List.length_eraseIdx, HC.out, if_pos hlt2]; omega
                          · intro j hj
                            obtain ⟨i, hi, hne, e⟩ := cutL_from L p j (by rw [HL.out]; exact hlt2) hj
                            rw [e]
                            exact Hmem.out i (by rw [HL.out] at hi; exact hi) hne Hlo.out
                          · rw [← Hofs.out, if_neg (by rw [Hlo.out]; simp), Hear.out]
                          · exact (own_kept Hol7.out hS9).mono hz5
                          · rw [List.eraseIdx_eq_take_drop_succ]
                            exact o9.mono (Nat.le_trans Hb7.out.size (Nat.le_refl _))
                          · have := own_kept Hoo7.out hS9
                            simpa using this
                          · exact below_kept Hb7.out (Nat.le_refl _) hS9
                        have HE := Lib.hid hE
                        clear hE hS9 o9 g9 o8 b8 Hol7 Hoc7 Hoo7
                        go_wp2
                        go_roundg f
                        case measure => omega
                        case rel => exact HE.out

theorem spec_IsQuiddity (A : Option Addr) (c B : Nat) (l : List Int) (w : World) (h : SlI w B A l) (hB : B ≤ w.heap.size) (hl : l.length ≤ 1048576) (hlc : l.length ≤ c) :
    Calls Try.prog 110 #[.slice A l.length c] w fun e w' => e = .returned (.bool (isQ l)) ∧ Below w.heap.size w w' := by
  have hq := isQ_poOfS l
  have Hq := Lib.hid hq
  clear hq
  go_enter Try.func110, Try.ntmps110
  go_wp2_with fail
  refine (spec_poOf A c B l _ h hB hl).mono ?_
  rintro e w1 ⟨A', c', rfl, ho, hb⟩
  clear ho h
  go_wp2
  go_ret
  exact ⟨ret_bool Hq.out, hb⟩
end Go.Proofs.Ytfkkbjbgjmaciaa

/- The program's ring as a list of twenty-five numbers: how many are left, the numbers, the corners; plain mathematics. -/
namespace Go.Proofs.Ytfkkbjbgjmaciaa
set_option linter.unusedVariables false

def ringL (m : Int) (N C : List Int) : List Int := m :: (N ++ C)
theorem ringL_length {m : Int} {N C : List Int} (hN : N.length = 12) (hC : C.length = 12) : (ringL m N C).length = 25 := by simp [ringL]; omega
theorem ringL_get0 (m : Int) (N C : List Int) : (ringL m N C).getD 0 0 = m := rfl
theorem ringL_getN {m : Int} {N C : List Int} (hN : N.length = 12) (i : Nat) (h : i < 12) : (ringL m N C).getD (1 + i) 0 = N.getD i 0 := by
  unfold ringL
  rw [Nat.add_comm, List.getD_cons_succ]
  simp only [List.getD_eq_getElem?_getD]
  rw [List.getElem?_append_left (by omega)]
theorem ringL_getC {m : Int} {N C : List Int} (hN : N.length = 12) (i : Nat) : (ringL m N C).getD (13 + i) 0 = C.getD i 0 := by
  unfold ringL
  rw [show 13 + i = (12 + i) + 1 by omega, List.getD_cons_succ]
  simp only [List.getD_eq_getElem?_getD]
  rw [List.getElem?_append_right (by omega), hN]
  congr 2
  omega
theorem ringL_set0 (m x : Int) (N C : List Int) : (ringL m N C).set 0 x = ringL x N C := rfl
theorem ringL_setN {m : Int} {N C : List Int} (hN : N.length = 12) (i : Nat) (x : Int) (h : i < 12) : (ringL m N C).set (1 + i) x = ringL m (N.set i x) C := by
  unfold ringL
  rw [Nat.add_comm, List.set_cons_succ, List.set_append_left _ _ (by omega)]
theorem ringL_setC {m : Int} {N C : List Int} (hN : N.length = 12) (i : Nat) (x : Int) : (ringL m N C).set (13 + i) x = ringL m N (C.set i x) := by
  unfold ringL
  rw [show 13 + i = (12 + i) + 1 by omega, List.set_cons_succ, List.set_append_right _ _ (by omega), hN, show 12 + i - 12 = i by omega]
theorem ics_splice (l : List Int) (off : Nat) (cs : List Int) : ics (splice l off cs) = splice (ics l) off (ics cs) := by
  simp [splice, ics, List.map_take, List.map_drop]
theorem ringL_spliceN {m : Int} {N C cs : List Int} (hN : N.length = 12) (k : Nat) (hk : k + cs.length ≤ 12) : splice (ringL m N C) (1 + k) cs = ringL m (splice N k cs) C := by
  unfold splice ringL
  rw [Nat.add_comm 1 k, List.take_succ_cons, show k + 1 + cs.length = (k + cs.length) + 1 by omega, List.drop_succ_cons, List.take_append_of_le_length (by omega), List.drop_append_of_le_length (by omega)]
  simp
theorem ringL_spliceC {m : Int} {N C cs : List Int} (hN : N.length = 12) (k : Nat) : splice (ringL m N C) (13 + k) cs = ringL m N (splice C k cs) := by
  unfold splice ringL
  rw [show 13 + k = (12 + k) + 1 by omega, List.take_succ_cons, show 12 + k + 1 + cs.length = (12 + (k + cs.length)) + 1 by omega, List.drop_succ_cons, ← hN, List.take_length_add_append, List.drop_length_add_append]
  simp
theorem splice_take (N : List Int) (m k : Nat) (hk : k < m) (hm : m ≤ N.length) : (splice N k ((N.take m).drop (k + 1))).take (m - 1) = (N.take m).eraseIdx k := by
  have hl : ((N.take m).drop (k + 1)).length = m - 1 - k := by simp; omega
  rw [List.eraseIdx_eq_take_drop_succ]
  generalize hcs : (N.take m).drop (k + 1) = cs at *
  unfold splice
  have h1 : (N.take k).length = k := by simp; omega
  have e1 : (N.take k).take (m - 1) = N.take k := by rw [List.take_take, Nat.min_eq_right (by omega)]
  have e2 : (cs ++ N.drop (k + cs.length)).take (m - 1 - k) = cs := by
    rw [List.take_append_of_le_length (by omega)]
    exact List.take_of_length_le (by omega)
  have e3 : (N.take m).take k = N.take k := by rw [List.take_take, Nat.min_eq_left (by omega)]
  rw [List.take_append, h1, e1, e2, e3]
theorem splice_length (N : List Int) (m k : Nat) (hk : k < m) (hm : m ≤ N.length) : (splice N k ((N.take m).drop (k + 1))).length = N.length := by
  apply length_splice
  simp; omega
theorem decr_take (l : List Int) (i n : Nat) (h : i < n) : (decr l i).take n = decr (l.take n) i := by
  unfold decr
  rw [List.take_set]
  congr 1
  simp [h]
/-- the numbers behind a cut, twelve of them -/
def cutN (N : List Int) (m k : Nat) : List Int := splice (decr (decr N ((k + m - 1) % m)) ((k + 1) % m)) k (((decr (decr N ((k + m - 1) % m)) ((k + 1) % m)).take m).drop (k + 1))
def cutC (C : List Int) (m k : Nat) : List Int := splice C k ((C.take m).drop (k + 1))
theorem cutN_take (N : List Int) (m k : Nat) (hm : 4 ≤ m) (hk : k < m) (hN : m ≤ N.length) : (cutN N m k).take (m - 1) = cutL (N.take m) k := by
  obtain ⟨a1, a2, _⟩ := around k m hm hk
  have hl : (N.take m).length = m := by simp; omega
  unfold cutN
  rw [splice_take _ m k hk (by rw [decr_length, decr_length]; exact hN), decr_take _ _ _ a2, decr_take _ _ _ a1]
  unfold cutL dec2
  rw [hl]
theorem cutC_take (C : List Int) (m k : Nat) (hk : k < m) (hC : m ≤ C.length) : (cutC C m k).take (m - 1) = (C.take m).eraseIdx k := splice_take C m k hk hC
theorem cutN_length (N : List Int) (m k : Nat) (hk : k < m) (hN : m ≤ N.length) : (cutN N m k).length = N.length := by
  unfold cutN
  rw [splice_length _ m k hk (by rw [decr_length, decr_length]; exact hN), decr_length, decr_length]
theorem cutC_length (C : List Int) (m k : Nat) (hk : k < m) (hC : m ≤ C.length) : (cutC C m k).length = C.length := splice_length C m k hk hC
theorem take_getD (l : List Int) (m i : Nat) (h : i < m) : (l.take m).getD i 0 = l.getD i 0 := by simp [h]

/-- numbers within a bound that cutting widens by one -/
def Near (b : Nat) (l : List Int) : Prop := ∀ i, -(b : Int) ≤ l.getD i 0 ∧ l.getD i 0 ≤ 12
theorem Near.decr {b : Nat} {l : List Int} (h : Near b l) (i : Nat) : Near (b + 1) (decr l i) := by
  intro j
  have := h j
  by_cases hj : j < l.length
  · rw [decr_get l i j hj]
    split <;> omega
  · have e : (Go.Proofs.Ytfkkbjbgjmaciaa.decr l i).getD j 0 = 0 := by simp [Go.Proofs.Ytfkkbjbgjmaciaa.decr, hj]
    rw [e]; omega
theorem Near.cutN {b : Nat} {N : List Int} (h : Near b N) (m k : Nat) : Near (b + 2) (cutN N m k) := by
  have h2 := (h.decr ((k + m - 1) % m)).decr ((k + 1) % m)
  unfold Go.Proofs.Ytfkkbjbgjmaciaa.cutN
  generalize Go.Proofs.Ytfkkbjbgjmaciaa.decr (Go.Proofs.Ytfkkbjbgjmaciaa.decr N ((k + m - 1) % m)) ((k + 1) % m) = X at *
  intro i
  have key : ∀ (Y : List Int) (j : Nat), (∀ y ∈ Y, -((b + 2 : Nat) : Int) ≤ y ∧ y ≤ 12) → -((b + 2 : Nat) : Int) ≤ Y.getD j 0 ∧ Y.getD j 0 ≤ 12 := by
    intro Y j hY
    by_cases hj : j < Y.length
    · have e : Y.getD j 0 = Y[j] := by simp [hj]
      rw [e]
      exact hY _ (List.getElem_mem hj)
    · have e : Y.getD j 0 = 0 := by simp [hj]
      rw [e]; omega
  refine key _ i fun y hy => ?_
  have hX : ∀ y ∈ X, -((b + 2 : Nat) : Int) ≤ y ∧ y ≤ 12 := by
    intro y hy
    obtain ⟨j, hj, rfl⟩ := List.getElem_of_mem hy
    have := h2 j
    simp [hj] at this
    omega
  unfold splice at hy
  rcases List.mem_append.1 hy with hy | hy
  · exact hX y (List.mem_of_mem_take hy)
  · rcases List.mem_append.1 hy with hy | hy
    · exact hX y (List.mem_of_mem_take (List.mem_of_mem_drop hy))
    · exact hX y (List.mem_of_mem_drop hy)
end Go.Proofs.Ytfkkbjbgjmaciaa

/- slices.SortFunc at the program's diagonals, of at most twelve: walked through the library's own text. -/
namespace Go.Proofs.Ytfkkbjbgjmaciaa
set_option linter.unusedVariables false
open Go.RowKit

theorem grown_kept {w0 w w' : World} {g : Nat} (h : w0.grownBy w (some g)) (hb : Below w.heap.size w w') : w0.grownBy w' (some g) :=
  h.trans ⟨hb.os, hb.tape, hb.output, hb.size, fun k hk _ => hb.block k hk⟩

def cmpV : Value := .func (.func 194) #[] #[]

/-- what the sort leaves: the row in order; nothing else that was there has turned -/
def Sorted (g cap base e : Nat) (l : List (Int × Int)) (w : World) (r : Ending) (w' : World) : Prop :=
  r = .returned (.tuple #[]) ∧ w'.ownsRow base e 2 (.slice (some ⟨g, 0, none⟩) l.length cap) l.length (dcs (sortD l)) ∧ w.grownBy w' (some g)

set_option maxRecDepth 100000 in
set_option maxHeartbeats 3200000 in
theorem insertionSort (g cap base e : Nat) (l : List (Int × Int)) (w : World) (h : w.ownsRow base e 2 (.slice (some ⟨g, 0, none⟩) l.length cap) l.length (dcs l)) (h12 : l.length ≤ 12) :
    Calls Try.prog 217 #[.slice (some ⟨g, 0, none⟩) l.length cap, .int .i64 0, .int .i64 l.length, .func (.func 194) #[] #[]] w (Sorted g cap base e l w) := by
  go_enter Try.func217, Try.ntmps217
  go_wp2
  go_loopw [8, 9] (fun i _ wr => ∃ k : Nat, ∃ P : List (Int × Int), 1 ≤ k ∧ (k ≤ l.length ∨ (k = 1 ∧ l.length = 0)) ∧ i = .int .i64 k ∧ P.Pairwise leP ∧ P.Perm (l.take k) ∧ wr.ownsRow base e 2 (.slice (some ⟨g, 0, none⟩) l.length cap) l.length (dcs (P ++ l.drop k)) ∧ w.grownBy wr (some g)) (fun i _ _ => l.length - (intOf i).toNat)
  case atStart =>
    refine ⟨1, l.take 1, by omega, by omega, rfl, ?_, List.Perm.refl _, by rw [List.take_append_drop]; exact h, World.grownBy.refl w _⟩
    match l with
    | [] => simp
    | [a] => simp
    | a :: b :: r => simp
  case round =>
    obtain ⟨k, P, hk1, hk2, rfl, hP, hperm, ho, hg⟩ := hrel
    by_cases hlt : k < l.length
    · have hPl : P.length = k := by rw [hperm.length_eq]; simp; omega
      generalize hx : l.getD k (0, 0) = x at *
      have hsplit : l.drop k = x :: l.drop (k + 1) := by
        rw [List.drop_eq_getElem_cons hlt, ← hx]
        simp [hlt]
      have htake : l.take (k + 1) = l.take k ++ [x] := by
        rw [List.take_succ_eq_append_getElem hlt, ← hx]
        simp [hlt]
      rw [hsplit] at ho
      have hstart : P ++ x :: l.drop (k + 1) = inn P x k (l.drop (k + 1)) := by
        unfold inn
        rw [← hPl, List.take_length, List.drop_length]
        rfl
      rw [hstart] at ho
      have Hinn0 : Hid (Inn P x k) := Lib.hid ⟨hP, by omega, by rw [← hPl, List.drop_length]; simp⟩
      have Hperm : Hid ((P ++ [x]).Perm (l.take (k + 1))) := Lib.hid (by rw [htake]; exact hperm.append_right [x])
      have HPl := Lib.hid hPl
      have hrl : P.length + 1 + (l.drop (k + 1)).length = l.length := by rw [hPl]; simp; omega
      have Hrl := Lib.hid hrl
      clear hsplit htake hstart hP hperm hPl hrl h hx
      go_wp2
      obtain ⟨wo, rfl⟩ : ∃ wo : World, wo = wr := ⟨_, rfl⟩
      go_loopw [9] (fun j wr => ∃ j' : Nat, j' ≤ k ∧ j = .int .i64 j' ∧ Inn P x j' ∧ wr.ownsRow base e 2 (.slice (some ⟨g, 0, none⟩) l.length cap) l.length (dcs (inn P x j' (l.drop (k + 1)))) ∧ w.grownBy wr (some g)) (fun j _ => (intOf j).toNat)
      case atStart => exact ⟨k, Nat.le_refl _, rfl, Hinn0.out, ho, hg⟩
      case round =>
        clear ho hg
        obtain ⟨j, hj, rfl, hinn, ho, hg⟩ := hrel
        have Hinn := Lib.hid hinn
        clear hinn Hinn0
        by_cases hj0 : j = 0
        · subst hj0
          have hs := Hinn.out.stop (.inl rfl)
          have hp := (inn_perm P x 0).trans Hperm.out
          have Hfin : Hid (∃ P : List (Int × Int), P.Pairwise leP ∧ P.Perm (l.take (k + 1)) ∧ wr.ownsRow base e 2 (.slice (some ⟨g, 0, none⟩) l.length cap) l.length (dcs (P ++ l.drop (k + 1)))) :=
            Lib.hid ⟨_, hs, hp, by unfold inn at ho; simpa using ho⟩
          clear hs hp ho
          go_wp2
          go_quiet (fail)
          go_wp2
          go_roundw
          case rel =>
            obtain ⟨P', h1, h2, h3⟩ := Hfin.out
            exact ⟨k + 1, P', by omega, by omega, by go_num, h1, h2, h3, grown_kept hg ((below_drewN (Below.refl _ _) _))⟩
          case measure => simp [intOf]; omega
        · have hj1 : 0 < j := by omega
          have hjP : j ≤ P.length := by rw [HPl.out]; exact hj
          have hxj := inn_at P x j (l.drop (k + 1)) hjP
          have hpj := inn_before P x j (l.drop (k + 1)) hjP hj1
          have hsw := inn_swap P x j (l.drop (k + 1)) hjP hj1
          have hil : (inn P x j (l.drop (k + 1))).length = l.length := by rw [inn_length, Hrl.out]
          have hstep := Hinn.out.step hj1
          have hstop := Hinn.out.stop (x := x) (j := j)
          generalize hp : P.getD (j - 1) (0, 0) = p at *
          obtain ⟨x0, x1⟩ := x
          obtain ⟨p0, p1⟩ := p
          dsimp only at hstep hstop
          have c0 : wr.cell? ⟨g, j * 2, none⟩ = some (.int .i64 x0) := by rw [ho.cellAt _ (by omega), dcs_get0 _ _ (by omega), hxj]
          have c1 : wr.cell? ⟨g, j * 2 + 1, none⟩ = some (.int .i64 x1) := by rw [ho.cellAt _ (by omega), dcs_get1 _ _ (by omega), hxj]
          have c2 : wr.cell? ⟨g, (j - 1) * 2, none⟩ = some (.int .i64 p0) := by rw [ho.cellAt _ (by omega), dcs_get0 _ _ (by omega), hpj]
          have c3 : wr.cell? ⟨g, (j - 1) * 2 + 1, none⟩ = some (.int .i64 p1) := by rw [ho.cellAt _ (by omega), dcs_get1 _ _ (by omega), hpj]
          have Hsw := Lib.hid hsw
          have Hil := Lib.hid hil
          have Hstep := Lib.hid hstep
          have Hstop := Lib.hid hstop
          clear hxj hpj hsw hil hstep hstop hp
          have i0 : (0 : Int) ≤ (j : Int) := by omega
          have i1 : (j : Int) < (l.length : Int) := by omega
          have i2 : (0 : Int) < (j : Int) := by omega
          have j0 : (0 : Int) ≤ (j : Int) - 1 := by omega
          have j1 : (j : Int) - 1 < (l.length : Int) := by omega
          have j3 : ((j : Int) - 1).toNat = j - 1 := by omega
          have j5 : (1 : Int) ≤ (j : Int) := by omega
          have j6 : (j : Int) ≤ (l.length : Int) := by omega
          have j7 : (j : Int) < (l.length : Int) + 1 := by omega
          go_wp2
          have j4 : IntKind.i64.wrap ((j : Int) - 1) = (j : Int) - 1 := IntWalk.i64_in _ (by omega)
          go_region_held3 (fun w' => w'.cell? ⟨g, j * 2, none⟩ = some (.int .i64 x0) ∧ w'.cell? ⟨g, j * 2 + 1, none⟩ = some (.int .i64 x1) ∧
              w'.cell? ⟨g, (j - 1) * 2, none⟩ = some (.int .i64 p0) ∧ w'.cell? ⟨g, (j - 1) * 2 + 1, none⟩ = some (.int .i64 p1) ∧ Below wr.heap.size wr w')
            (first
              | exact kept4 (by assumption) hb1 (Nat.le_refl _)
              | exact ⟨c0, c1, c2, c3, (Below.refl _ _).drew⟩)
            (first
              | (go_at_call 194; refine (impl_compareDiagonals _ _ _ _ _).mono ?_; rintro e w1 ⟨rfl, hb1⟩))
          rename_i hS
          have hd := hS.2.2.2.2
          have ho2 := own_kept ho hd
          have hg2 := grown_kept hg hd
          obtain ⟨d0, d1, d2, d3, -⟩ := hS
          clear hb1 hd ho hg c0 c1 c2 c3 j4 j3
          have hge := cmpD_ge x0 x1 p0 p1
          cases hz : ltB x0 x1 p0 p1
          · have hge2 : 0 ≤ cmpD x0 x1 p0 p1 := by rw [hz] at hge; simpa using hge
            have hs := Hstop.out (.inr hz)
            have hp := (inn_perm P (x0, x1) j).trans Hperm.out
            have Hfin : Hid (∃ P : List (Int × Int), P.Pairwise leP ∧ P.Perm (l.take (k + 1)) ∧ w1.ownsRow base e 2 (.slice (some ⟨g, 0, none⟩) l.length cap) l.length (dcs (P ++ l.drop (k + 1)))) :=
              Lib.hid ⟨_, hs, hp, by unfold inn at ho2; simpa using ho2⟩
            clear hs hp ho2 hge hz d0 d1 d2 d3
            go_wp2
            go_roundw
            case rel =>
              obtain ⟨P', h1, h2, h3⟩ := Hfin.out
              exact ⟨k + 1, P', by omega, by omega, by go_num, h1, h2, h3, hg2⟩
            case measure => simp [intOf]; omega
          · have hge2 : cmpD x0 x1 p0 p1 < 0 := by rw [hz] at hge; simp at hge; omega
            have Hst2 := Lib.hid (Hstep.out hz)
            clear hge hz
            have f0 := ho2.frozenAt (j * 2)
            have f1 := ho2.frozenAt (j * 2 + 1)
            have f2 := ho2.frozenAt ((j - 1) * 2)
            have f3 := ho2.frozenAt ((j - 1) * 2 + 1)
            have hjl : j < (inn P (x0, x1) j (l.drop (k + 1))).length := by rw [Hil.out]; omega
            obtain ⟨ho3, hg3⟩ := stored2 ho2 j hjl p0 p1
            obtain ⟨ho4, hg4⟩ := stored2 ho3 (j - 1) (by simp; omega) x0 x1
            rw [Hsw.out] at ho4
            have hg5 := (hg2.trans hg3).trans hg4
            clear ho2 ho3 hg2 hg3 hg4
            go_wp2
            have j3 : ((j : Int) - 1).toNat = j - 1 := by omega
            have j4 : IntKind.i64.wrap ((j : Int) - 1) = (j : Int) - 1 := IntWalk.i64_in _ (by omega)
            go_big_region
            clear j3 j4
            go_wp2
            go_roundw
            case rel => exact ⟨j - 1, by omega, by congr 1; omega, Hst2.out, ho4, grown_kept hg5 ((Below.refl _ _).drew)⟩
            case measure => simp [intOf]; omega
    · have hkl : l.take k = l ∧ l.drop k = [] := by
        constructor
        · exact List.take_of_length_le (by omega)
        · exact List.drop_eq_nil_of_le (by omega)
      rw [hkl.1] at hperm
      rw [hkl.2, List.append_nil] at ho
      have hfin : Sorted g cap base e l w (.returned (.tuple #[])) wr := ⟨rfl, by rw [← sortD_unique hP hperm]; exact ho, hg⟩
      have Hfin := Lib.hid hfin
      clear hkl hperm ho hfin h
      go_wp2
      go_end0
      exact Hfin.out

set_option maxRecDepth 100000 in
set_option maxHeartbeats 3200000 in
theorem pdqsort12 (lim : Int) (g cap base e : Nat) (l : List (Int × Int)) (w : World) (h : w.ownsRow base e 2 (.slice (some ⟨g, 0, none⟩) l.length cap) l.length (dcs l)) (h12 : l.length ≤ 12) :
    Calls Try.prog 209 #[.slice (some ⟨g, 0, none⟩) l.length cap, .int .i64 0, .int .i64 l.length, .int .i64 lim, .func (.func 194) #[] #[]] w (Sorted g cap base e l w) := by
  have i0 : (0 : Int) ≤ (l.length : Int) := by omega
  have i1 : (l.length : Int) ≤ 12 := by omega
  go_enter Try.func209, Try.ntmps209
  go_wp2
  refine wp_loop_rounds 1 ?_
  rw [rounds_succ]
  go_wp2_with fail
  refine (insertionSort g cap base e l _ h h12).mono ?_
  rintro e w1 hS
  have hr := hS.1
  subst hr
  have HS := Lib.hid hS
  clear hS h
  go_wp2
  go_end0
  exact HS.out

def SomeInt (w : World) (e : Ending) (w' : World) : Prop := ∃ r : Int, e = .returned (.int .i64 r) ∧ w = w'

set_option maxRecDepth 100000 in
theorem bits_Len12 : ∀ n : Nat, n ≤ 12 → ∀ w : World, Calls Try.prog 189 #[.int .u64 n] w (SomeInt w) := by
  intro n hn w
  have hcase : n = 0 ∨ n = 1 ∨ n = 2 ∨ n = 3 ∨ n = 4 ∨ n = 5 ∨ n = 6 ∨ n = 7 ∨ n = 8 ∨ n = 9 ∨ n = 10 ∨ n = 11 ∨ n = 12 := by omega
  rcases hcase with rfl | rfl | rfl | rfl | rfl | rfl | rfl | rfl | rfl | rfl | rfl | rfl | rfl
  all_goals (go_enter Try.func189, Try.ntmps189; go_wp2; go_ret; exact ⟨_, rfl, rfl⟩)

theorem slices_SortFunc (g cap base e : Nat) (l : List (Int × Int)) (w : World) (h : w.ownsRow base e 2 (.slice (some ⟨g, 0, none⟩) l.length cap) l.length (dcs l)) (h12 : l.length ≤ 12) :
    Calls Try.prog 193 #[.slice (some ⟨g, 0, none⟩) l.length cap, .func (.func 194) #[] #[]] w (Sorted g cap base e l w) := by
  go_enter Try.func193, Try.ntmps193
  go_wp2_with fail
  refine (bits_Len12 l.length h12 _).mono ?_
  rintro e1 w1 ⟨lim, rfl, rfl⟩
  go_wp2_with fail
  refine (pdqsort12 lim g cap base e l _ h h12).mono ?_
  rintro r w1 hS
  have hr := hS.1
  subst hr
  have HS := Lib.hid hS
  clear hS h
  go_wp2
  go_end0
  exact HS.out

end Go.Proofs.Ytfkkbjbgjmaciaa

/- The program's ring: an ear is cut off it. -/
namespace Go.Proofs.Ytfkkbjbgjmaciaa
set_option linter.unusedVariables false
open Go.RowKit

theorem impl_join (a b : Int) (w : World) : Calls Try.prog 208 #[.int .i64 a, .int .i64 b] w fun e w' => e = .returned (.agg #[.int .i64 (min a b), .int .i64 (max a b)]) ∧ Below w.heap.size w w' := by
  go_enter Try.func208, Try.ntmps208
  go_wp2
  all_goals exact bodyPost_ret (v := .agg #[.int .i64 (min a b), .int .i64 (max a b)]) (by simp [results, Try.results208, go_sem] <;> omega) rfl ⟨rfl, (Below.refl _ _).alloc (Nat.le_refl _) _⟩

/-- a block that is a ring -/
def Ring (w : World) (base g : Nat) (m : Int) (N C : List Int) : Prop := w.ownsRow base 168 1 (.slice (some ⟨g, 0, none⟩) 25 25) 25 (ics (ringL m N C))
section
variable {w w' : World} {base g : Nat} {m : Int} {N C : List Int}
theorem Ring.own (h : Ring w base g m N C) : w.ownsRow base 168 1 (.slice (some ⟨g, 0, none⟩) 25 25) 25 (ics (ringL m N C)) := h
theorem Ring.c0 (h : Ring w base g m N C) : w.cell? ⟨g, 0, none⟩ = some (.int .i64 m) := by
  have h1 := h.1
  rw [ics_length] at h1
  have := World.ownsRow.cellAt h 0 (by omega)
  rw [this, ics_get _ _ (by omega)]
  rfl
theorem Ring.cN (h : Ring w base g m N C) (hN : N.length = 12) (i : Nat) (hi : i < 12) : w.cell? ⟨g, 1 + i, none⟩ = some (.int .i64 (N.getD i 0)) := by
  have h1 := h.1
  rw [ics_length] at h1
  have := World.ownsRow.cellAt h (1 + i) (by omega)
  rw [this, ics_get _ _ (by omega), ringL_getN hN i hi]
theorem Ring.cC (h : Ring w base g m N C) (hN : N.length = 12) (i : Nat) (hi : i < 12) : w.cell? ⟨g, 13 + i, none⟩ = some (.int .i64 (C.getD i 0)) := by
  have h1 := h.1
  rw [ics_length] at h1
  have := World.ownsRow.cellAt h (13 + i) (by omega)
  rw [this, ics_get _ _ (by omega), ringL_getC hN i]
theorem Ring.fro (h : Ring w base g m N C) (i : Nat) : w.frozen? ⟨g, i, none⟩ = false := World.ownsRow.frozenAt h i
theorem Ring.set0 (h : Ring w base g m N C) (x : Int) : Ring (w.setCell ⟨g, 0, none⟩ (.int .i64 x)) base g x N C ∧ w.grownBy (w.setCell ⟨g, 0, none⟩ (.int .i64 x)) (some g) := by
  have h2 := World.ownsRow.stored h 0 (.int .i64 x)
  rw [ics_set, ringL_set0] at h2
  exact h2
theorem Ring.setN (h : Ring w base g m N C) (hN : N.length = 12) (i : Nat) (hi : i < 12) (x : Int) : Ring (w.setCell ⟨g, 1 + i, none⟩ (.int .i64 x)) base g m (N.set i x) C ∧ w.grownBy (w.setCell ⟨g, 1 + i, none⟩ (.int .i64 x)) (some g) := by
  have h2 := World.ownsRow.stored h (1 + i) (.int .i64 x)
  rw [ics_set, ringL_setN hN i x hi] at h2
  exact h2
theorem Ring.kept (h : Ring w base g m N C) (hb : Below w.heap.size w w') : Ring w' base g m N C := own_kept h hb
theorem Ring.heap (h : Ring w base g m N C) (hN : N.length = 12) (hC : C.length = 12) : w.heap[g]? = some (.cells (ics (ringL m N C)).toArray 168 (0, 0)) := by
  rcases h.2 with ⟨h', _⟩ | ⟨g', cap, cur, h', _, hh, _, _, hs, ht⟩
  · cases h'
  · cases h'
    have e : cur = (ics (ringL m N C)).toArray := by
      rw [← ht]
      apply Array.ext'
      rw [List.take_of_length_le]
      simp; omega
    rw [e] at hh
    exact hh
theorem Ring.of_heap (hh : w.heap[g]? = some (.cells (ics (ringL m N C)).toArray 168 (0, 0))) (hN : N.length = 12) (hC : C.length = 12) (hb : base ≤ g) : Ring w base g m N C := by
  refine ⟨by rw [ics_length, ringL_length hN hC], .inr ⟨g, 25, _, rfl, hb, hh, Nat.le_refl _, by unfold maxLen; omega, by simp [ics_length, ringL_length hN hC], ?_⟩⟩
  rw [List.take_of_length_le]
  simp [ics_length, ringL_length hN hC]
end

theorem keptS {B : Nat} {w0 w : World} {p0 p1 p : Addr} {v0 v1 v : Value} (h : w.cell? p0 = some v0 ∧ w.cell? p1 = some v1 ∧ Below B w0 w) (hB : B ≤ p.block) (n0 : p0.block < B) (n1 : p1.block < B) : (w.setCell p v).cell? p0 = some v0 ∧ (w.setCell p v).cell? p1 = some v1 ∧ Below B w0 (w.setCell p v) :=
  ⟨(World.cell?_setCell_far _ _ _ _ (by omega)).trans h.1, (World.cell?_setCell_far _ _ _ _ (by omega)).trans h.2.1, h.2.2.setCell hB v⟩

theorem newD {W w1 : World} {t : TypeId} (hb : Below (W.alloc (.cells #[.int .i64 0, .int .i64 0] t)).drew.heap.size (W.alloc (.cells #[.int .i64 0, .int .i64 0] t)).drew w1) :
    w1.cell? ⟨W.heap.size, 0, none⟩ = some (.int .i64 0) ∧ w1.cell? ⟨W.heap.size, 1, none⟩ = some (.int .i64 0) ∧ w1.frozen? ⟨W.heap.size, 0, none⟩ = false ∧ w1.frozen? ⟨W.heap.size, 1, none⟩ = false :=
  ⟨cell_kept hb (by simp [go_sem]), cell_kept hb (by simp [go_sem]), (hb.frozen (p := ⟨W.heap.size, 0, none⟩) (by simp)).trans (by simp [go_sem]), (hb.frozen (p := ⟨W.heap.size, 1, none⟩) (by simp)).trans (by simp [go_sem])⟩

theorem cell_far' {w w' : World} {g gd o : Nat} {v : Value} (h : w.cell? ⟨gd, o, none⟩ = some v) (hg : w.grownBy w' (some g)) (hne : gd ≠ g) : w'.cell? ⟨gd, o, none⟩ = some v :=
  hg.cell h (by intro e; injection e with e; exact hne e)
theorem set2 {w : World} {g : Nat} {a b a' b' : Value} (h0 : w.cell? ⟨g, 0, none⟩ = some a) (h1 : w.cell? ⟨g, 1, none⟩ = some b) :
    ((w.setCell ⟨g, 0, none⟩ a').setCell ⟨g, 1, none⟩ b').cell? ⟨g, 0, none⟩ = some a' ∧ ((w.setCell ⟨g, 0, none⟩ a').setCell ⟨g, 1, none⟩ b').cell? ⟨g, 1, none⟩ = some b' := by
  constructor
  · rw [World.cell?_setCell_other _ _ _ _ (by simp)]
    exact World.cell?_setCell_same _ _ _ h0
  · refine World.cell?_setCell_same _ _ _ (u := b) ?_
    rw [World.cell?_setCell_other _ _ _ _ (by simp)]
    exact h1
/-- copy into a block that is known whole: all other blocks are as they were -/
theorem wp_copyR {o : Oper} {a : Act} {w : World} {K : Act → World → Prop} {Q : Exit → Act → World → Prop} (d s : Operand)
    (ho : o.op = .call { callee := .builtin .copy, args := #[d, s], argTypes := #[24, 24] })
    (dp sp : Option Addr) (dLen dCap sLen sCap : Nat) (hd : a.eval d = .slice dp dLen dCap) (hs : a.eval s = .slice sp sLen sCap)
    (g off : Nat) (cur : List Int) (t : TypeId) (hg : w.heap[g]? = some (.cells (ics cur).toArray t (0, 0))) (cs : List Int) (hn : cs.length = Nat.min sLen dLen)
    (hpos : 0 < cs.length → dp = some ⟨g, off, none⟩ ∧ ∃ ad, sp = some ad ∧ ∀ j, j < cs.length → w.cell? (ad.add j) = some (.int .i64 (cs.getD j 0)))
    (hfit : off + cs.length ≤ cur.length)
    (h : ∀ w', w'.heap[g]? = some (.cells (ics (splice cur off cs)).toArray t (0, 0)) → w.grownBy w' (some g) → K (a.put o.dst (goInt cs.length)) w') :
    Oper.wp Try.prog o a w K Q := by
  have hu : Try.prog.underlying 24 = some (.slice 3) := Try.underlying24
  have hsz : (Try.prog.info? 3).map (·.size) = some 1 := by kernel_rfl
  by_cases h0 : cs.length = 0
  · obtain rfl : cs = [] := List.eq_nil_of_length_eq_zero h0
    have hrun := run_copy_none (P := Try.prog) w 24 24 o.type 3 dp sp dLen dCap sLen sCap hu hsz (by simpa using hn.symm)
    unfold Oper.wp
    simp [execOp, ho, resolve, invoke, builtin, hd, hs, hrun, Result.andThen]
    exact h w (by simpa [splice] using hg) (World.grownBy.refl w _)
  · obtain ⟨rfl, ad, rfl, hsrc⟩ := hpos (by omega)
    have hrun := run_copy_row (P := Try.prog) w 24 24 o.type 3 g off dLen dCap ad sLen sCap (ics cur).toArray t (ics cs) hu hsz hg (by rw [ics_length]; exact hn)
      (fun j v hv => by
        have hj : j < cs.length := by
          have := (List.getElem?_eq_some_iff.1 hv).1
          rwa [ics_length] at this
        rw [ics_get cs j hj] at hv
        rw [← hv]
        exact hsrc j hj) (by simpa [ics_length] using hfit) (fun v hv => by simp only [ics, List.mem_map] at hv; obtain ⟨x, _, rfl⟩ := hv; rfl)
    unfold Oper.wp
    simp [execOp, ho, resolve, invoke, builtin, hd, hs, hrun, Result.andThen]
    rw [ics_length]
    refine h _ ?_ ⟨rfl, rfl, rfl, by simp [World.setRow], fun k hk hne => setRow_other w g k _ (by intro e; exact hne (by rw [e]))⟩
    have e : (ics (splice cur off cs)).toArray = ((ics cur).toArray.toList.take off ++ (ics cs ++ (ics cur).toArray.toList.drop (off + (ics cs).length))).toArray := by
      rw [ics_splice]
      rfl
    rw [e]
    simpa [ics_length] using setRow_heap w g (ics cur).toArray _ t _ hg
theorem step_copyR {ops : Array Oper} {o : Oper} {a : Act} {w : World} {K : Act → World → Prop} {Q : Exit → Act → World → Prop} {E : Prop} (hgd : o.guard = none) (d s : Operand)
    (ho : o.op = .call { callee := .builtin .copy, args := #[d, s], argTypes := #[24, 24] })
    (dp sp : Option Addr) (dLen dCap sLen sCap : Nat) (hd : a.eval d = .slice dp dLen dCap) (hs : a.eval s = .slice sp sLen sCap)
    (g off : Nat) (cur : List Int) (t : TypeId) (hg : w.heap[g]? = some (.cells (ics cur).toArray t (0, 0))) (cs : List Int) (hn : cs.length = Nat.min sLen dLen)
    (hpos : 0 < cs.length → dp = some ⟨g, off, none⟩ ∧ ∃ ad, sp = some ad ∧ ∀ j, j < cs.length → w.cell? (ad.add j) = some (.int .i64 (cs.getD j 0)))
    (hfit : off + cs.length ≤ cur.length)
    (h : ∀ w', w'.heap[g]? = some (.cells (ics (splice cur off cs)).toArray t (0, 0)) → w.grownBy w' (some g) → K (a.put o.dst (goInt cs.length)) w') :
    if Region.wanted o (yielded ops a.tmps) = true then Oper.wp Try.prog o a w K Q else E := by
  have hw : Region.wanted o (yielded ops a.tmps) = true := by simp [Region.wanted, hgd]
  rw [if_pos hw]
  exact wp_copyR d s ho dp sp dLen dCap sLen sCap hd hs g off cur t hg cs hn hpos hfit h
theorem wpList_copyR {ops : Array Oper} {rest : List Oper} {o : Oper} {a : Act} {w : World} {Q : Exit → Act → World → Prop} (hgd : o.guard = none) (d s : Operand)
    (ho : o.op = .call { callee := .builtin .copy, args := #[d, s], argTypes := #[24, 24] })
    (dp sp : Option Addr) (dLen dCap sLen sCap : Nat) (hd : a.eval d = .slice dp dLen dCap) (hs : a.eval s = .slice sp sLen sCap)
    (g off : Nat) (cur : List Int) (t : TypeId) (hg : w.heap[g]? = some (.cells (ics cur).toArray t (0, 0))) (cs : List Int) (hn : cs.length = Nat.min sLen dLen)
    (hpos : 0 < cs.length → dp = some ⟨g, off, none⟩ ∧ ∃ ad, sp = some ad ∧ ∀ j, j < cs.length → w.cell? (ad.add j) = some (.int .i64 (cs.getD j 0)))
    (hfit : off + cs.length ≤ cur.length)
    (h : ∀ w', w'.heap[g]? = some (.cells (ics (splice cur off cs)).toArray t (0, 0)) → w.grownBy w' (some g) → wpList Try.prog ops Q rest (a.put o.dst (goInt cs.length)) w') :
    wpList Try.prog ops Q (o :: rest) a w :=
  wpList_plain hgd fun _ hK => wp_copyR d s ho dp sp dLen dCap sLen sCap hd hs g off cur t hg cs hn hpos hfit fun w' h1 h2 => hK _ _ (h w' h1 h2)
theorem part_len {N : List Int} (hN : N.length = 12) {m k : Nat} (hk : k < m) (hm : m ≤ 12) : ((N.take m).drop (k + 1)).length = (m - (k + 1)).min (12 - k) := by
  rw [List.length_drop, List.length_take, hN]
  show min m 12 - (k + 1) = min (m - (k + 1)) (12 - k)
  omega
theorem part_len' {N : List Int} (hN : N.length = 12) {m k : Nat} (hk : k < m) (hm : m ≤ 12) : ((N.take m).drop (k + 1)).length = m - (k + 1) := by
  rw [List.length_drop, List.length_take, hN]
  omega
theorem part_get (N : List Int) (m k j : Nat) (h : k + 1 + j < m) : ((N.take m).drop (k + 1)).getD j 0 = N.getD (k + 1 + j) 0 := by
  simp only [List.getD_eq_getElem?_getD, List.getElem?_drop, List.getElem?_take, if_pos h]
theorem Ring.posN {W : World} {base g : Nat} {M : Int} {N C : List Int} (h : Ring W base g M N C) (hN : N.length = 12) {m k : Nat} (hk : k < m) (hm : m ≤ 12) {a0 a1 : Addr} :
    0 < ((N.take m).drop (k + 1)).length → some (if 12 = k then a0 else ⟨g, 1 + k, none⟩) = some (⟨g, 1 + k, none⟩ : Addr) ∧
      ∃ ad, some (if k = 11 then a1 else ⟨g, 1 + (k + 1), none⟩) = some (ad : Addr) ∧ ∀ j, j < ((N.take m).drop (k + 1)).length → W.cell? (ad.add j) = some (.int .i64 (((N.take m).drop (k + 1)).getD j 0)) := by
  rw [part_len' hN hk hm]
  intro h0
  rw [if_neg (by omega), if_neg (by omega)]
  refine ⟨rfl, _, rfl, fun j hj => ?_⟩
  rw [Addr.add_lit, part_get N m k j (by omega), show 1 + (k + 1) + j = 1 + (k + 1 + j) by omega]
  exact h.cN hN _ (by omega)
theorem Ring.posC {W : World} {base g : Nat} {M : Int} {N C : List Int} (h : Ring W base g M N C) (hN : N.length = 12) (hC : C.length = 12) {m k : Nat} (hk : k < m) (hm : m ≤ 12) {a0 a1 : Addr} :
    0 < ((C.take m).drop (k + 1)).length → some (if 12 = k then a0 else ⟨g, 13 + k, none⟩) = some (⟨g, 13 + k, none⟩ : Addr) ∧
      ∃ ad, some (if k = 11 then a1 else ⟨g, 13 + (k + 1), none⟩) = some (ad : Addr) ∧ ∀ j, j < ((C.take m).drop (k + 1)).length → W.cell? (ad.add j) = some (.int .i64 (((C.take m).drop (k + 1)).getD j 0)) := by
  rw [part_len' hC hk hm]
  intro h0
  rw [if_neg (by omega), if_neg (by omega)]
  refine ⟨rfl, _, rfl, fun j hj => ?_⟩
  rw [Addr.add_lit, part_get C m k j (by omega), show 13 + (k + 1) + j = 13 + (k + 1 + j) by omega]
  exact h.cC hN _ (by omega)
theorem Ring.fit {M : Int} {N C X : List Int} (hN : N.length = 12) (hC : C.length = 12) (hX : X.length = 12) {m k o : Nat} (hk : k < m) (hm : m ≤ 12) (ho : o ≤ 13) : o + k + ((X.take m).drop (k + 1)).length ≤ (ringL M N C).length := by
  rw [ringL_length hN hC, part_len' hX hk hm]
  omega
theorem Ring.doneN {w5 : World} {base g : Nat} {M : Int} {N C : List Int} {m k : Nat} (h5 : w5.heap[g]? = some (.cells (ics (splice (ringL M N C) (1 + k) ((N.take m).drop (k + 1)))).toArray 168 (0, 0))) (hN : N.length = 12) (hC : C.length = 12) (hk : k < m) (hm : m ≤ 12) (hb : base ≤ g) :
    Ring w5 base g M (splice N k ((N.take m).drop (k + 1))) C := by
  rw [ringL_spliceN hN k (by rw [part_len' hN hk hm]; omega)] at h5
  exact Ring.of_heap h5 (by rw [splice_length _ _ _ hk (by omega)]; exact hN) hC hb
theorem Ring.doneC {w5 : World} {base g : Nat} {M : Int} {N C : List Int} {m k : Nat} (h5 : w5.heap[g]? = some (.cells (ics (splice (ringL M N C) (13 + k) ((C.take m).drop (k + 1)))).toArray 168 (0, 0))) (hN : N.length = 12) (hC : C.length = 12) (hk : k < m) (hm : m ≤ 12) (hb : base ≤ g) :
    Ring w5 base g M N (splice C k ((C.take m).drop (k + 1))) := by
  rw [ringL_spliceC hN k] at h5
  exact Ring.of_heap h5 hN (by rw [splice_length _ _ _ hk (by omega)]; exact hC) hb

/-- what a cut leaves -/
def Cut (base g m k : Nat) (N C : List Int) (w : World) (e : Ending) (w' : World) : Prop :=
  e = .returned (.agg #[.int .i64 (earD (C.take m) m k).1, .int .i64 (earD (C.take m) m k).2]) ∧ Ring w' base g ((m : Int) - 1) (cutN N m k) (cutC C m k) ∧ w.grownBy w' (some g)

theorem grown_new {w w1 w2 : World} {g n : Nat} (h : w.grownBy w1 (some g)) (k : w1.grownBy w2 (some n)) (hn : w.heap.size ≤ n) : w.grownBy w2 (some g) :=
  ⟨k.os.trans h.os, k.tape.trans h.tape, k.output.trans h.output, Nat.le_trans h.size k.size, fun i hi hne => (k.block i (Nat.lt_of_lt_of_le hi h.size) (by intro e; injection e with e; omega)).trans (h.block i hi hne)⟩
theorem ring_end {w W8 : World} {base g m k : Nat} {N C : List Int} {x y : Int} (hear : earD (C.take m) m k = (x, y)) (hr8 : Ring W8 base g ((m : Int) - 1) (cutN N m k) (cutC C m k)) (hg : g < w.heap.size)
    (hrs8 : W8.ownsRow w.heap.size 161 2 (.slice (some ⟨w.heap.size, 0, none⟩) 1 1) 1 (dcs [(0, 0)])) (hgr8 : w.grownBy W8 (some g)) :
    Cut base g m k N C w (.returned (.agg #[.int .i64 x, .int .i64 y])) ((W8.setCell ⟨w.heap.size, 0, none⟩ (.int .i64 x)).setCell ⟨w.heap.size, 1, none⟩ (.int .i64 y)) ∧
    ((W8.setCell ⟨w.heap.size, 0, none⟩ (.int .i64 x)).setCell ⟨w.heap.size, 1, none⟩ (.int .i64 y)).cell? ⟨w.heap.size, 0, none⟩ = some (.int .i64 x) ∧
    ((W8.setCell ⟨w.heap.size, 0, none⟩ (.int .i64 x)).setCell ⟨w.heap.size, 1, none⟩ (.int .i64 y)).cell? ⟨w.heap.size, 1, none⟩ = some (.int .i64 y) := by
  obtain ⟨h1, h2⟩ := stored2 hrs8 0 (by simp) x y
  simp only [Nat.zero_mul, Nat.zero_add] at h2
  refine ⟨⟨by rw [hear], own_far hr8.own h2 ?_, grown_new hgr8 h2 (Nat.le_refl _)⟩, ?_⟩
  · intro j hj e
    simp [Value.ownBlock] at hj
    injection e with e
    omega
  · refine set2 (a := .int .i64 0) (b := .int .i64 0) ?_ ?_
    · rw [hrs8.cellAt 0 (by omega)]; rfl
    · rw [hrs8.cellAt 1 (by omega)]; rfl

set_option maxRecDepth 100000 in
set_option maxHeartbeats 6400000 in
theorem impl_cut (base g m k : Nat) (N C : List Int) (w : World) (h : Ring w base g m N C) (hN : N.length = 12) (hC : C.length = 12) (hnr : Near 100 N) (hm4 : 4 ≤ m) (hm12 : m ≤ 12) (hk : k < m) :
    Calls Try.prog 192 #[.pointer (some ⟨g, 0, none⟩), .int .i64 k] w (Cut base g m k N C w) := by
  obtain ⟨a1, a2, _⟩ := around k m hm4 hk
  have ha0 : ((k : Int) + (m : Int) - 1).tmod (m : Int) = (((k + m - 1) % m : Nat) : Int) := by
    rw [show (k : Int) + (m : Int) - 1 = ((k + m - 1 : Nat) : Int) by omega]
    rfl
  have hb0 : ((k : Int) + 1) % (m : Int) = (((k + 1) % m : Nat) : Int) := by
    rw [show (k : Int) + 1 = ((k + 1 : Nat) : Int) by omega]
    rfl
  have hear : earD (C.take m) m k = (min (C.getD ((k + m - 1) % m) 0) (C.getD ((k + 1) % m) 0), max (C.getD ((k + m - 1) % m) 0) (C.getD ((k + 1) % m) 0)) := by
    unfold earD
    rw [take_getD _ _ _ a1, take_getD _ _ _ a2]
  have hcut : cutN N m k = splice (decr (decr N ((k + m - 1) % m)) ((k + 1) % m)) k (((decr (decr N ((k + m - 1) % m)) ((k + 1) % m)).take m).drop (k + 1)) := rfl
  generalize (k + m - 1) % m = a at *
  generalize (k + 1) % m = b at *
  have hg : g < w.heap.size := (World.ownsRow.lt h g rfl).2
  have c0 := h.c0
  have hw1 : IntKind.i64.wrap ((k : Int) + (m : Int)) = (k : Int) + (m : Int) := IntWalk.i64_in _ (by omega)
  have hw2 : IntKind.i64.wrap ((k : Int) + (m : Int) - 1) = (k : Int) + (m : Int) - 1 := IntWalk.i64_in _ (by omega)
  have Hear := Lib.hid hear
  have Hcut := Lib.hid hcut
  have Hb0 := Lib.hid hb0
  have HN := Lib.hid hN
  have HC := Lib.hid hC
  clear hear hcut hb0 hN hC
  go_enter Try.func192, Try.ntmps192
  go_wp2
  go_quiet (fail)
  clear hw1 hw2 ha0
  have hb1 : Below w.heap.size w ((w.alloc (.cells #[.int .i64 0, .int .i64 0] 161)).drewN nq) := below_drewN ((Below.refl w.heap.size w).alloc (Nat.le_refl _) _) nq
  have hr1 := h.kept hb1
  have hgr1 := grown_kept (World.grownBy.refl w (some g)) hb1
  have hrs : ((w.alloc (.cells #[.int .i64 0, .int .i64 0] 161)).drewN nq).ownsRow w.heap.size 161 2 (.slice (some ⟨w.heap.size, 0, none⟩) 1 1) 1 (dcs [(0, 0)]) :=
    own_drewN (World.ownsRow_lit (e := 161) (size := 2) (base := w.heap.size) w (dcs [(0, 0)]).toArray 1 (Nat.le_refl _) (by decide) rfl) nq
  clear hb1
  clear c0
  generalize (w.alloc (.cells #[.int .i64 0, .int .i64 0] 161)).drewN nq = W1 at *
  have c0 := hr1.c0
  have Hhead := Hb0.out
  go_wp2
  clear Hhead
  -- the number ahead
  have f0 := hr1.fro (1 + a)
  have n0 := hr1.cN HN.out a (by omega)
  have hx := hnr a
  have hst := hr1.setN HN.out a (by omega) (N.getD a 0 - 1)
  rw [show N.set a (N.getD a 0 - 1) = decr N a from rfl] at hst
  have hnr2 := hnr.decr a
  generalize N.getD a 0 = x at *
  have a3 : (0 : Int) ≤ (a : Int) := by omega
  have a4 : (a : Int) < 12 := by omega
  have hw1 : IntKind.i64.wrap (x - 1) = x - 1 := IntWalk.i64_in _ (by omega)
  have Hst := Lib.hid hst
  have Hx := Lib.hid hx
  clear hst hx hnr
  rw [Hb0.out]
  go_big_region
  have hr2 : Ring (W1.setCell ⟨g, 1 + a, none⟩ (.int .i64 (x - 1))).drew base g m (decr N a) C := World.ownsRow.drew Hst.out.1
  have hg2 : W1.grownBy (W1.setCell ⟨g, 1 + a, none⟩ (.int .i64 (x - 1))).drew (some g) := grown_kept Hst.out.2 ((Below.refl _ _).drew)
  have hgr2 := hgr1.trans hg2
  have hrs2 := own_far hrs hg2 (own_ne hrs hr1.own (by decide))
  clear hr1 hgr1 hrs hg2 c0 f0 n0 Hst hw1 Hx
  generalize (W1.setCell ⟨g, 1 + a, none⟩ (.int .i64 (x - 1))).drew = W2 at *
  have HN2 : Hid ((decr N a).length = 12) := Lib.hid (by rw [decr_length]; exact HN.out)
  have c0 := hr2.c0
  have f0 := hr2.fro (1 + b)
  have n0 := hr2.cN HN2.out b (by omega)
  have hx := hnr2 b
  have hst := hr2.setN HN2.out b (by omega) ((decr N a).getD b 0 - 1)
  rw [show (decr N a).set b ((decr N a).getD b 0 - 1) = decr (decr N a) b from rfl] at hst
  have hnr3 := hnr2.decr b
  generalize (decr N a).getD b 0 = y at *
  have b3 : (0 : Int) ≤ (b : Int) := by omega
  have b4 : (b : Int) < 12 := by omega
  have hw1 : IntKind.i64.wrap (y - 1) = y - 1 := IntWalk.i64_in _ (by omega)
  have Hst := Lib.hid hst
  have Hx := Lib.hid hx
  clear hst hx hnr2
  go_wp2
  go_big_region
  have hr3 : Ring (W2.setCell ⟨g, 1 + b, none⟩ (.int .i64 (y - 1))).drew base g m (decr (decr N a) b) C := World.ownsRow.drew Hst.out.1
  have hg3 : W2.grownBy (W2.setCell ⟨g, 1 + b, none⟩ (.int .i64 (y - 1))).drew (some g) := grown_kept Hst.out.2 ((Below.refl _ _).drew)
  have hgr3 := hgr2.trans hg3
  have hrs3 := own_far hrs2 hg3 (own_ne hrs2 hr2.own (by decide))
  clear hr2 hgr2 hrs2 hg3 c0 f0 n0 Hst hw1 Hx hnr3
  generalize (W2.setCell ⟨g, 1 + b, none⟩ (.int .i64 (y - 1))).drew = W3 at *
  have HN3 : Hid ((decr (decr N a) b).length = 12) := Lib.hid (by rw [decr_length, decr_length]; exact HN.out)
  have na := hr3.cC HN3.out a (by omega)
  have nb := hr3.cC HN3.out b (by omega)
  have hg3' : g < W3.heap.size := (World.ownsRow.lt hr3.own g rfl).2
  generalize C.getD a 0 = x at *
  generalize C.getD b 0 = y at *
  go_wp2
  go_region_held3 (fun w' => w'.cell? ⟨g, 13 + a, none⟩ = some (.int .i64 x) ∧ w'.cell? ⟨g, 13 + b, none⟩ = some (.int .i64 y) ∧ Below W3.heap.size W3 w')
    (first
      | assumption
      | exact ⟨na, nb, (Below.refl _ _).drew⟩
      | (refine kept2 ?_ hb1 (Nat.le_refl _); assumption)
      | (refine kept2 ?_ ((Below.refl _ _).alloc (Nat.le_refl _) _) (Nat.le_refl _); assumption)
      | exact drew2 (kept2 ⟨na, nb, Below.refl _ _⟩ ((Below.refl _ _).alloc (Nat.le_refl _) _) (Nat.le_refl _))
      | exact kept2 (kept2 (w := W3.drew) ⟨na, nb, (Below.refl _ _).drew⟩ hb1 (Nat.le_refl _)) ((Below.refl _ _).alloc (Nat.le_refl _) _) (Nat.le_refl _)
      | (refine keptS (keptS ?_ (Nat.le_refl _) hg3' hg3') (Nat.le_refl _) hg3' hg3'; assumption))
    (first
      | (go_at_call 208; refine (impl_join _ _ _).mono ?_; rintro e w1 ⟨rfl, hb1⟩
         first
           | (have qd : w1.cell? ⟨W3.heap.size, 0, none⟩ = some (.int .i64 0) ∧ w1.cell? ⟨W3.heap.size, 1, none⟩ = some (.int .i64 0) ∧ w1.frozen? ⟨W3.heap.size, 0, none⟩ = false ∧ w1.frozen? ⟨W3.heap.size, 1, none⟩ = false := newD (W := W3) hb1
              obtain ⟨qd0, qd1, qf0, qf1⟩ := qd)
           | skip))
  · rename_i hS
    have hb4 := hS.2.2
    have e0 : (w1.alloc (.cells #[.int .i64 (min x y), .int .i64 (max x y)] 161)).cell? ⟨w1.heap.size, 0, none⟩ = some (.int .i64 (min x y)) := by simp [go_sem]
    have e1 : (w1.alloc (.cells #[.int .i64 (min x y), .int .i64 (max x y)] 161)).cell? ⟨w1.heap.size, 1, none⟩ = some (.int .i64 (max x y)) := by simp [go_sem]
    have hz := hb1.size
    have hn1 : w1.heap.size ≠ g := by simp at hz; omega
    have hn2 : w1.heap.size ≠ w.heap.size := by have := (World.ownsRow.lt hrs3 w.heap.size rfl).2; simp at hz; omega
    clear hS hb1 hz
    generalize w1.alloc (.cells #[.int .i64 (min x y), .int .i64 (max x y)] 161) = W4 at *
    generalize w1.heap.size = gd at *
    have hr4 := hr3.kept hb4
    have hgr4 := grown_kept hgr3 hb4
    have hrs4 := own_kept hrs3 hb4
    clear hr3 hgr3 hrs3 hb4 na nb
    generalize hN3 : decr (decr N a) b = N3 at *
    have c0 := hr4.c0
    have hbg : base ≤ g := (World.ownsRow.lt hr4.own g rfl).1
    have HH := Lib.hid (hr4.heap HN3.out HC.out)
    have k0 : (0 : Int) ≤ (k : Int) := by omega
    have k1 : (k : Int) ≤ 12 := by omega
    have k2 : (0 : Int) ≤ (k : Int) + 1 := by omega
    have k3 : (k : Int) + 1 ≤ (m : Int) := by omega
    have k4 : (m : Int) ≤ 12 := by omega
    have k5 : (0 : Int) ≤ (m : Int) := by omega
    have hkw : IntKind.i64.wrap ((k : Int) + 1) = (k : Int) + 1 := IntWalk.i64_in _ (by omega)
    have hkn : ((k : Int) + 1).toNat = k + 1 := by omega
    have HN3' := Lib.hid hN3
    clear hN3
    go_wp2
    go_region_held3 (fun w' => w'.cell? ⟨g, 0, none⟩ = some (.int .i64 m))
      (first
        | assumption
        | exact c0
        | exact hr5.c0)
      (first
        | (refine step_copyR rfl _ _ rfl _ _ _ _ _ _ rfl rfl g (1 + k) (ringL m N3 C) _ HH.out ((N3.take m).drop (k + 1)) (part_len HN3.out hk hm12) (Ring.posN (W := W4.drew) hr4 HN3.out hk hm12) (Ring.fit HN3.out HC.out HN3.out hk hm12 (by omega)) ?_
           intro w5 h5 g5
           have hr5 := Ring.doneN h5 HN3.out HC.out hk hm12 hbg))
    generalize (if 12 = k then (⟨g, 1, none⟩ : Addr) else ⟨g, 1 + k, none⟩) = u64
    generalize (if k = 11 then (⟨g, 1, none⟩ : Addr) else ⟨g, 1 + (k + 1), none⟩) = u74
    clear h5 c0
    rename_i hS5
    clear hS5
    have hg5 : W4.grownBy w5 (some g) := (grown_kept (World.grownBy.refl W4 (some g)) ((Below.refl _ _).drew)).trans g5
    have hgr5 := hgr4.trans hg5
    have hrs5 := own_far hrs4 hg5 (own_ne hrs4 hr4.own (by decide))
    have d0 := cell_far' e0 hg5 hn1
    have d1 := cell_far' e1 hg5 hn1
    clear hgr4 hg5 g5 hrs4 hr4 e0 e1 HH
    have HN5 : Hid ((splice N3 k ((N3.take m).drop (k + 1))).length = 12) := Lib.hid (by rw [splice_length _ _ _ hk (by rw [HN3.out]; exact hm12)]; exact HN3.out)
    have hcn : cutN N m k = splice N3 k ((N3.take m).drop (k + 1)) := Hcut.out
    rw [← hcn] at hr5 HN5
    have Hcn := Lib.hid hcn
    clear hcn
    have c0 := hr5.c0
    have HH := Lib.hid (hr5.heap HN5.out HC.out)
    go_wp2
    go_region_held3 (fun w' => w'.cell? ⟨g, 0, none⟩ = some (.int .i64 m))
      (first
        | assumption
        | exact c0
        | exact hr6.c0)
      (first
        | (refine step_copyR rfl _ _ rfl _ _ _ _ _ _ rfl rfl g (13 + k) (ringL m (cutN N m k) C) _ HH.out ((C.take m).drop (k + 1)) (part_len HC.out hk hm12) (Ring.posC (W := w5.drew) hr5 HN5.out HC.out hk hm12) (Ring.fit HN5.out HC.out HC.out hk hm12 (by omega)) ?_
           intro w6 h6 g6
           have hr6 := Ring.doneC h6 HN5.out HC.out hk hm12 hbg))
    generalize (if 12 = k then (⟨g, 13, none⟩ : Addr) else ⟨g, 13 + k, none⟩) = u80
    generalize (if k = 11 then (⟨g, 13, none⟩ : Addr) else ⟨g, 13 + (k + 1), none⟩) = u90
    clear h6 c0
    rename_i hS6
    clear hS6
    have hg6 : w5.grownBy w6 (some g) := (grown_kept (World.grownBy.refl w5 (some g)) ((Below.refl _ _).drew)).trans g6
    have hgr6 := hgr5.trans hg6
    have hrs6 := own_far hrs5 hg6 (own_ne hrs5 hr5.own (by decide))
    have q0 := cell_far' d0 hg6 hn1
    have q1 := cell_far' d1 hg6 hn1
    clear hgr5 hg6 g6 hrs5 hr5 d0 d1 HH hkw hkn
    have HC6 : Hid ((splice C k ((C.take m).drop (k + 1))).length = 12) := Lib.hid (by rw [splice_length _ _ _ hk (by rw [HC.out]; exact hm12)]; exact HC.out)
    have hr7 : Ring w6 base g m (cutN N m k) (cutC C m k) := hr6
    clear hr6
    have c0 := hr7.c0
    have f0 := hr7.fro 0
    obtain ⟨hr8, hg8⟩ := hr7.set0 ((m : Int) - 1)
    have hrs8 := own_far hrs6 hg8 (own_ne hrs6 hr7.own (by decide))
    have hgr8 := hgr6.trans hg8
    have q2 := cell_far' q0 hg8 hn1
    have q3 := cell_far' q1 hg8 hn1
    have r0 : w6.cell? ⟨w.heap.size, 0, none⟩ = some (.int .i64 0) := by rw [hrs6.cellAt 0 (by omega)]; rfl
    have r1 : w6.cell? ⟨w.heap.size, 1, none⟩ = some (.int .i64 0) := by rw [hrs6.cellAt 1 (by omega)]; rfl
    have rf0 := hrs6.frozenAt 0
    have rf1 := hrs6.frozenAt 1
    obtain ⟨hE, z0, z1⟩ := ring_end Hear.out hr8 hg hrs8 hgr8
    have HE := Lib.hid hE
    have Z0 := Lib.hid z0
    have Z1 := Lib.hid z1
    clear hr7 hrs6 hgr6 hg8 hE z0 z1 hr8 hrs8 hgr8 h
    go_wp2
    exact bodyPost_ret (v := .agg #[.int .i64 (min x y), .int .i64 (max x y)]) (by simp [results, Try.results192, go_sem, Z0.out, Z1.out]) rfl HE.out
  · rename_i hS
    have hb4 := hS.2.2
    obtain ⟨e0, e1⟩ := set2 (a' := .int .i64 (min x y)) (b' := .int .i64 (max x y)) qd0 qd1
    have hn1 : W3.heap.size ≠ g := by omega
    have hn2 : W3.heap.size ≠ w.heap.size := by have := (World.ownsRow.lt hrs3 w.heap.size rfl).2; omega
    clear hS hb1 qd0 qd1 qf0 qf1
    generalize (w1.setCell ⟨W3.heap.size, 0, none⟩ (.int .i64 (min x y))).setCell ⟨W3.heap.size, 1, none⟩ (.int .i64 (max x y)) = W4 at *
    generalize W3.heap.size = gd at e0 e1 hn1 hn2 ⊢
    have hr4 := hr3.kept hb4
    have hgr4 := grown_kept hgr3 hb4
    have hrs4 := own_kept hrs3 hb4
    clear hr3 hgr3 hrs3 hb4 na nb
    generalize hN3 : decr (decr N a) b = N3 at *
    have c0 := hr4.c0
    have hbg : base ≤ g := (World.ownsRow.lt hr4.own g rfl).1
    have HH := Lib.hid (hr4.heap HN3.out HC.out)
    have k0 : (0 : Int) ≤ (k : Int) := by omega
    have k1 : (k : Int) ≤ 12 := by omega
    have k2 : (0 : Int) ≤ (k : Int) + 1 := by omega
    have k3 : (k : Int) + 1 ≤ (m : Int) := by omega
    have k4 : (m : Int) ≤ 12 := by omega
    have k5 : (0 : Int) ≤ (m : Int) := by omega
    have hkw : IntKind.i64.wrap ((k : Int) + 1) = (k : Int) + 1 := IntWalk.i64_in _ (by omega)
    have hkn : ((k : Int) + 1).toNat = k + 1 := by omega
    have HN3' := Lib.hid hN3
    clear hN3
    go_wp2
    go_region_held3 (fun w' => w'.cell? ⟨g, 0, none⟩ = some (.int .i64 m))
      (first
        | assumption
        | exact c0
        | exact hr5.c0)
      (first
        | (refine step_copyR rfl _ _ rfl _ _ _ _ _ _ rfl rfl g (1 + k) (ringL m N3 C) _ HH.out ((N3.take m).drop (k + 1)) (part_len HN3.out hk hm12) (Ring.posN (W := W4.drew) hr4 HN3.out hk hm12) (Ring.fit HN3.out HC.out HN3.out hk hm12 (by omega)) ?_
           intro w5 h5 g5
           have hr5 := Ring.doneN h5 HN3.out HC.out hk hm12 hbg))
    generalize (if 12 = k then (⟨g, 1, none⟩ : Addr) else ⟨g, 1 + k, none⟩) = u64
    generalize (if k = 11 then (⟨g, 1, none⟩ : Addr) else ⟨g, 1 + (k + 1), none⟩) = u74
    clear h5 c0
    rename_i hS5
    clear hS5
    have hg5 : W4.grownBy w5 (some g) := (grown_kept (World.grownBy.refl W4 (some g)) ((Below.refl _ _).drew)).trans g5
    have hgr5 := hgr4.trans hg5
    have hrs5 := own_far hrs4 hg5 (own_ne hrs4 hr4.own (by decide))
    have d0 := cell_far' e0 hg5 hn1
    have d1 := cell_far' e1 hg5 hn1
    clear hgr4 hg5 g5 hrs4 hr4 e0 e1 HH
    have HN5 : Hid ((splice N3 k ((N3.take m).drop (k + 1))).length = 12) := Lib.hid (by rw [splice_length _ _ _ hk (by rw [HN3.out]; exact hm12)]; exact HN3.out)
    have hcn : cutN N m k = splice N3 k ((N3.take m).drop (k + 1)) := Hcut.out
    rw [← hcn] at hr5 HN5
    have Hcn := Lib.hid hcn
    clear hcn
    have c0 := hr5.c0
    have HH := Lib.hid (hr5.heap HN5.out HC.out)
    go_wp2
    go_region_held3 (fun w' => w'.cell? ⟨g, 0, none⟩ = some (.int .i64 m))
      (first
        | assumption
        | exact c0
        | exact hr6.c0)
      (first
        | (refine step_copyR rfl _ _ rfl _ _ _ _ _ _ rfl rfl g (13 + k) (ringL m (cutN N m k) C) _ HH.out ((C.take m).drop (k + 1)) (part_len HC.out hk hm12) (Ring.posC (W := w5.drew) hr5 HN5.out HC.out hk hm12) (Ring.fit HN5.out HC.out HC.out hk hm12 (by omega)) ?_
           intro w6 h6 g6
           have hr6 := Ring.doneC h6 HN5.out HC.out hk hm12 hbg))
    generalize (if 12 = k then (⟨g, 13, none⟩ : Addr) else ⟨g, 13 + k, none⟩) = u80
    generalize (if k = 11 then (⟨g, 13, none⟩ : Addr) else ⟨g, 13 + (k + 1), none⟩) = u90
    clear h6 c0
    rename_i hS6
    clear hS6
    have hg6 : w5.grownBy w6 (some g) := (grown_kept (World.grownBy.refl w5 (some g)) ((Below.refl _ _).drew)).trans g6
    have hgr6 := hgr5.trans hg6
    have hrs6 := own_far hrs5 hg6 (own_ne hrs5 hr5.own (by decide))
    have q0 := cell_far' d0 hg6 hn1
    have q1 := cell_far' d1 hg6 hn1
    clear hgr5 hg6 g6 hrs5 hr5 d0 d1 HH hkw hkn
    have HC6 : Hid ((splice C k ((C.take m).drop (k + 1))).length = 12) := Lib.hid (by rw [splice_length _ _ _ hk (by rw [HC.out]; exact hm12)]; exact HC.out)
    have hr7 : Ring w6 base g m (cutN N m k) (cutC C m k) := hr6
    clear hr6
    have c0 := hr7.c0
    have f0 := hr7.fro 0
    obtain ⟨hr8, hg8⟩ := hr7.set0 ((m : Int) - 1)
    have hrs8 := own_far hrs6 hg8 (own_ne hrs6 hr7.own (by decide))
    have hgr8 := hgr6.trans hg8
    have q2 := cell_far' q0 hg8 hn1
    have q3 := cell_far' q1 hg8 hn1
    have r0 : w6.cell? ⟨w.heap.size, 0, none⟩ = some (.int .i64 0) := by rw [hrs6.cellAt 0 (by omega)]; rfl
    have r1 : w6.cell? ⟨w.heap.size, 1, none⟩ = some (.int .i64 0) := by rw [hrs6.cellAt 1 (by omega)]; rfl
    have rf0 := hrs6.frozenAt 0
    have rf1 := hrs6.frozenAt 1
    obtain ⟨hE, z0, z1⟩ := ring_end Hear.out hr8 hg hrs8 hgr8
    have HE := Lib.hid hE
    have Z0 := Lib.hid z0
    have Z1 := Lib.hid z1
    clear hr7 hrs6 hgr6 hg8 hE z0 z1 hr8 hrs8 hgr8 h
    go_wp2
    exact bodyPost_ret (v := .agg #[.int .i64 (min x y), .int .i64 (max x y)]) (by simp [results, Try.results192, go_sem, Z0.out, Z1.out]) rfl HE.out
end Go.Proofs.Ytfkkbjbgjmaciaa

/- The program's couldBeQuiddity and ringOf. -/
namespace Go.Proofs.Ytfkkbjbgjmaciaa
set_option linter.unusedVariables false
open Go.RowKit

def FoundI (q : Bool) (w : World) (e : Ending) (w' : World) : Prop := ∃ r : Int, e = .returned (.int .i64 r) ∧ decide (0 ≤ r) = q ∧ w = w'

def couldP (n x : Int) : Bool := decide (x < 1 ∨ n - 2 < x)
theorem impl_could1 (g : Nat) (n x : Int) (w : World) (h0 : w.cell? ⟨g, 0, none⟩ = some (.int .i64 n)) (hn : 0 ≤ n ∧ n ≤ 100) :
    Calls Try.prog 207 #[.int .i64 x, .pointer (some ⟨g, 0, none⟩)] w fun e w' => e = .returned (.bool (couldP n x)) ∧ w = w' := by
  obtain ⟨_, _⟩ := hn
  go_enter Try.func207, Try.ntmps207
  go_wp2
  all_goals go_ret
  all_goals refine ⟨ret_bool ?_, rfl⟩
  all_goals (unfold couldP; rw [Bool.eq_iff_iff]; simp <;> omega)

def couldAny (n : Int) (l : List Int) : Bool := l.any (couldP n)
theorem couldAny_take (n : Int) (l : List Int) (k : Nat) (h : k < l.length) : couldAny n (l.take (k + 1)) = (couldAny n (l.take k) || couldP n (l.getD k 0)) := by
  unfold couldAny
  rw [List.take_succ_eq_append_getElem h, List.any_append]
  simp [h]
theorem couldAny_hit (n : Int) (l : List Int) (k : Nat) (h : k < l.length) (hc : couldP n (l.getD k 0) = true) : couldAny n l = true := by
  unfold couldAny
  rw [List.any_eq_true]
  refine ⟨l[k], List.getElem_mem h, ?_⟩
  have e : l.getD k 0 = l[k] := by simp [h]
  rw [e] at hc
  exact hc

set_option maxHeartbeats 800000 in
theorem indexFunc_could (g : Nat) (n : Int) (A : Option Addr) (c B : Nat) (l : List Int) (w : World) (h0 : w.cell? ⟨g, 0, none⟩ = some (.int .i64 n)) (hn : 0 ≤ n ∧ n ≤ 100)
    (h : SlI w B A l) (hl : l.length ≤ 1000000000) :
    Calls Try.prog 170 #[.slice A l.length c, .func (.func 207) #[] #[.pointer (some ⟨g, 0, none⟩)]] w (FoundI (couldAny n l) w) := by
  go_enter Try.func170, Try.ntmps170
  go_wp2
  go_loop [5, 8] (fun _ i => ∃ k : Nat, k ≤ l.length ∧ i = .int .i64 k ∧ couldAny n (l.take k) = false) (fun _ i => l.length - (intOf i).toNat)
  case atStart => exact ⟨0, Nat.zero_le _, rfl, by simp [couldAny]⟩
  case round =>
    obtain ⟨k, hk, rfl, hno⟩ := hrel
    by_cases hlt : k < l.length
    · obtain ⟨b', off, rfl, hbB, hc⟩ := h (by omega)
      have g0 := hc k hlt
      have i0 : (0 : Int) ≤ (k : Int) := by omega
      have i1 : (k : Int) < (l.length : Int) := by omega
      have hst := couldAny_take n l k hlt
      have hhit := couldAny_hit n l k hlt
      rw [hno, Bool.false_or] at hst
      clear hc h hno
      generalize l.getD k 0 = x at *
      have Hst := Lib.hid hst
      have Hhit := Lib.hid hhit
      clear hst hhit
      go_wp2_with fail
      refine (impl_could1 g n x _ h0 hn).mono ?_
      rintro e w1 ⟨rfl, rfl⟩
      clear g0 h0
      cases hx : couldP n x
      · go_wp2
        go_round
        case rel => exact ⟨k + 1, by omega, by go_num, by rw [Hst.out, hx]⟩
        case measure => simp [intOf]; omega
      · go_wp2
        go_ret
        exact ⟨k, rfl, by rw [Hhit.out hx]; simp, rfl⟩
    · obtain rfl : k = l.length := by omega
      rw [List.take_length] at hno
      have Hno := Lib.hid hno
      clear hno
      go_wp2
      go_ret
      exact ⟨-1, rfl, by rw [Hno.out]; rfl, rfl⟩

theorem containsFunc_could (g : Nat) (n : Int) (A : Option Addr) (c B : Nat) (l : List Int) (w : World) (h0 : w.cell? ⟨g, 0, none⟩ = some (.int .i64 n)) (hn : 0 ≤ n ∧ n ≤ 100)
    (h : SlI w B A l) (hl : l.length ≤ 1000000000) :
    Calls Try.prog 101 #[.slice A l.length c, .func (.func 207) #[] #[.pointer (some ⟨g, 0, none⟩)]] w fun e w' => e = .returned (.bool (couldAny n l)) ∧ w = w' := by
  go_enter Try.func101, Try.ntmps101
  go_wp2_with fail
  refine (indexFunc_could g n A c B l _ h0 hn h hl).mono ?_
  rintro e w1 ⟨r, rfl, hr, rfl⟩
  have Hr := Lib.hid hr
  clear hr h0 h
  go_wp2
  all_goals go_ret
  exact ⟨ret_bool Hr.out, rfl⟩


theorem couldAny_allB (l : List Int) (n : Int) : couldAny n l = !allB l 1 (n - 2) := by
  unfold couldAny allB
  induction l with
  | nil => rfl
  | cons x r ih =>
    rw [List.any_cons, List.all_cons, ih, Bool.not_and]
    congr 1
    unfold couldP
    rw [Bool.eq_iff_iff]
    simp

set_option maxRecDepth 100000 in
theorem impl_couldBeQuiddity (A : Option Addr) (c B : Nat) (l : List Int) (w : World) (h : SlI w B A l) (hB : B ≤ w.heap.size) (hl : l.length ≤ 1048576) :
    Calls Try.prog 190 #[.slice A l.length c] w fun e w' => e = .returned (.bool (couldB l)) ∧ Below w.heap.size w w' := by
  have hmf : ∀ (fn : Fn) (first cap : Array Value) (w : World), (Instr.makeFunc fn first cap).run Try.prog w = .ok (.func fn first cap) w := fun _ _ _ _ => rfl
  have hfin : couldB l = (poB l.length && allB l 1 ((l.length : Int) - 2)) := rfl
  have Hfin := Lib.hid hfin
  clear hfin
  have hb : Below w.heap.size w (w.alloc (.cells #[.int .i64 l.length] 3)) := (Below.refl _ _).alloc (Nat.le_refl _) _
  cases hp : poB l.length
  · go_enter Try.func190, Try.ntmps190
    go_wp2_with (go_at_call 206; ((with_reducible refine (impl_isPolygon _ _ _ hp).mono ?_); rintro e w' ⟨rfl, rfl⟩))
    go_ret
    exact ⟨ret_bool (by rw [Hfin.out, hp]; rfl), hb⟩
  · have hn : 3 ≤ (l.length : Int) ∧ (l.length : Int) ≤ 12 := by unfold poB at hp; simpa using hp
    have hs := h.below (hb.mono hB)
    have Hn := Lib.hid hn
    clear hn
    go_enter Try.func190, Try.ntmps190
    go_wp2_with (go_at_call 206; ((with_reducible refine (impl_isPolygon _ _ _ hp).mono ?_); rintro e w' ⟨rfl, rfl⟩))
    refine (containsFunc_could w.heap.size l.length A c B l _ ?h0 ?h1 hs (by omega)).mono ?_
    case h0 => simp [go_sem]
    case h1 => have := Hn.out; omega
    rintro e w1 ⟨rfl, rfl⟩
    clear hs h
    go_wp2
    go_ret
    exact ⟨ret_bool (by rw [Hfin.out, hp, couldAny_allB]; simp), hb⟩

end Go.Proofs.Ytfkkbjbgjmaciaa

/- The program's ringOf, TriangulationOf and IsQuiddity. -/
namespace Go.Proofs.Ytfkkbjbgjmaciaa
set_option linter.unusedVariables false
open Go.RowKit

/-- the first numbers of a list, zeros behind them: twelve -/
def pad (q : List Int) : List Int := q ++ List.replicate (12 - q.length) 0
theorem pad_length (q : List Int) (h : q.length ≤ 12) : (pad q).length = 12 := by simp [pad]; omega
theorem pad_take (q : List Int) : (pad q).take q.length = q := by simp [pad]
/-- corners numbered up to k -/
def iotaZ (k : Nat) : List Int := iota k ++ List.replicate (12 - k) 0
theorem iotaZ_length (k : Nat) (h : k ≤ 12) : (iotaZ k).length = 12 := by simp [iotaZ, iota_length]; omega
theorem iotaZ_set (k : Nat) (h : k < 12) : (iotaZ k).set k (k : Int) = iotaZ (k + 1) := by
  unfold iotaZ
  rw [List.set_append_right _ _ (by rw [iota_length]; omega), iota_length, Nat.sub_self, show 12 - k = (12 - (k + 1)) + 1 by omega, List.replicate_succ, List.set_cons_zero, iota_succ, List.append_assoc]
  rfl
theorem iotaZ_all : iotaZ 12 = iota 12 := by simp [iotaZ]
theorem ring_zero_splice (q : List Int) (h : q.length ≤ 12) (m : Int) (C : List Int) : splice (ringL m (List.replicate 12 0) C) 1 q = ringL m (pad q) C := by
  have := ringL_spliceN (m := m) (N := List.replicate 12 0) (C := C) (cs := q) (by simp) 0 (by omega)
  rw [Nat.add_zero] at this
  rw [this]
  unfold splice pad
  rw [List.take_zero, List.nil_append, Nat.zero_add, List.drop_replicate]

theorem Ring.setC {w : World} {base g : Nat} {m : Int} {N C : List Int} (h : Ring w base g m N C) (hN : N.length = 12) (i : Nat) (x : Int) : Ring (w.setCell ⟨g, 13 + i, none⟩ (.int .i64 x)) base g m N (C.set i x) ∧ w.grownBy (w.setCell ⟨g, 13 + i, none⟩ (.int .i64 x)) (some g) := by
  have h2 := World.ownsRow.stored h (13 + i) (.int .i64 x)
  rw [ics_set, ringL_setC hN i x] at h2
  exact h2

theorem ring_size : (Try.prog.info? 168).map (·.size) = some 25 := by kernel_rfl
theorem ics_one (L : List Int) : (ics L).toArray.all (·.oneCell') = true := by
  rw [Array.all_eq_true_iff_forall_mem]
  intro v hv
  simp only [ics, List.mem_toArray, List.mem_map] at hv
  obtain ⟨x, _, rfl⟩ := hv
  rfl
/-- a whole ring stored into a block of its make -/
theorem wpList_store_ring {ops : Array Oper} {rest : List Oper} {o : Oper} {a : Act} {w : World} {Q : Exit → Act → World → Prop} (hgd : o.guard = none) (x y : Operand) (ho : o.op = .store 168 x y) (hd : o.dst = none)
    (g : Nat) (L : List Int) (hx : a.eval x = .pointer (some ⟨g, 0, none⟩)) (hy : a.eval y = .agg (ics L).toArray) (t : TypeId) (old : List Int) (hg : w.heap[g]? = some (.cells (ics old).toArray t (0, 0))) (hold : old.length = 25) (hL : L.length = 25)
    (h : ∀ w', w'.heap[g]? = some (.cells (ics L).toArray t (0, 0)) → w.grownBy w' (some g) → wpList Try.prog ops Q rest a w') : wpList Try.prog ops Q (o :: rest) a w := by
  refine wpList_store_rowTo hgd 168 x y ho hd g (ics L).toArray hx hy t (ics old).toArray hg (by rw [ring_size]; simp [ics_length, hL]) (by simp [ics_length, hold, hL]) (ics_one L) ?_
  exact h _ (setRow_heap w g _ _ t _ hg) ⟨rfl, rfl, rfl, by simp [World.setRow], fun k hk hne => setRow_other w g k _ (by intro e; exact hne (by rw [e]))⟩
/-- a block that holds these numbers -/
def Blk (w : World) (g : Nat) (t : TypeId) (L : List Int) : Prop := w.heap[g]? = some (.cells (ics L).toArray t (0, 0))
theorem Blk.grown {w w' : World} {g n : Nat} {t : TypeId} {L : List Int} (h : Blk w g t L) (hg : w.grownBy w' (some n)) (hne : g ≠ n) : Blk w' g t L := by
  have hlt : g < w.heap.size := by
    rcases Nat.lt_or_ge g w.heap.size with hlt | hge
    · exact hlt
    · unfold Blk at h; rw [Array.getElem?_eq_none hge] at h; cases h
  exact (hg.block g hlt (by intro e; injection e with e; exact hne e)).trans h
theorem Blk.new (w : World) (t : TypeId) (L : List Int) : Blk (w.alloc (.cells (ics L).toArray t)) w.heap.size t L := heap_alloc_new w _
theorem Blk.alloc {w : World} {g : Nat} {t : TypeId} {L : List Int} (h : Blk w g t L) (o : Obj) : Blk (w.alloc o) g t L := by
  have hlt : g < w.heap.size := by
    rcases Nat.lt_or_ge g w.heap.size with hlt | hge
    · exact hlt
    · unfold Blk at h; rw [Array.getElem?_eq_none hge] at h; cases h
  exact (Below.heap_alloc w o g hlt).trans h
theorem Blk.new1 (w : World) (o : Obj) (t : TypeId) (L : List Int) : Blk ((w.alloc o).alloc (.cells (ics L).toArray t)) (w.heap.size + 1) t L := by
  have := Blk.new (w.alloc o) t L
  simpa using this

theorem min12 {l : List Int} (h : l.length ≤ 12) : l.length = Nat.min l.length 12 := by
  show l.length = min l.length 12
  omega
theorem sl_pos {w : World} {B : Nat} {A : Option Addr} {l : List Int} {a0 : Addr} (h : SlI w B A l) : 0 < l.length → some a0 = some a0 ∧ ∃ ad, A = some ad ∧ ∀ j, j < l.length → w.cell? (ad.add j) = some (.int .i64 (l.getD j 0)) := by
  intro h0
  obtain ⟨b, off, e, _, hc⟩ := h h0
  refine ⟨rfl, _, e, fun j hj => ?_⟩
  rw [Addr.add_lit]
  exact hc j hj
/-- the ring in the making: k corners numbered; the result's block is still zero -/
def RingOf (w : World) (l : List Int) (k : Nat) (wr : World) : Prop :=
  Ring wr w.heap.size (w.heap.size + 1) l.length (pad l) (iotaZ k) ∧ Blk wr w.heap.size 168 (List.replicate 25 0) ∧ Below w.heap.size w wr

set_option maxRecDepth 100000 in
set_option maxHeartbeats 3200000 in
theorem impl_ringOf (A : Option Addr) (c B : Nat) (l : List Int) (w : World) (h : SlI w B A l) (hB : B ≤ w.heap.size) (hl3 : 3 ≤ l.length) (hl : l.length ≤ 12) :
    Calls Try.prog 191 #[.slice A l.length c] w fun e w' => e = .returned (.agg (ics (ringL l.length (pad l) (iota 12))).toArray) ∧ Below w.heap.size w w' := by
  have HZ1 : Hid (Blk ((w.alloc (.cells (ics (List.replicate 25 0)).toArray 168)).alloc (.cells (ics (List.replicate 25 0)).toArray 168)) (w.heap.size + 1) 168 (List.replicate 25 0)) := Lib.hid (Blk.new1 _ _ _ _)
  have HZ0 : Hid (Blk ((w.alloc (.cells (ics (List.replicate 25 0)).toArray 168)).alloc (.cells (ics (List.replicate 25 0)).toArray 168)) w.heap.size 168 (List.replicate 25 0)) := Lib.hid ((Blk.new _ _ _).alloc _)
  have HB : Hid (Below w.heap.size w ((w.alloc (.cells (ics (List.replicate 25 0)).toArray 168)).alloc (.cells (ics (List.replicate 25 0)).toArray 168))) := Lib.hid (((Below.refl _ _).alloc (Nat.le_refl _) _).alloc (by simp) _)
  go_enter Try.func191, Try.ntmps191
  go_wp2_with (first
    | (refine wpList_store_ring rfl (.tmp 3) (.tmp 7) rfl rfl (w.heap.size + 1) (ringL l.length (List.replicate 12 0) (List.replicate 12 0)) rfl rfl 168 (List.replicate 25 0) HZ1.out rfl rfl ?_
       intro w2 h2 g2
       have HZ2 := Lib.hid (Blk.grown HZ0.out g2 (by omega))
       have HB2 := Lib.hid (below_grown HB.out g2 (Nat.le_refl _) (fun k hk => by injection hk with hk; omega))
       have HS2 : Hid (SlI w2 B A l) := Lib.hid (h.keep fun b o hb => (HB2.out.cell (p := ⟨b, o, none⟩) (Nat.lt_of_lt_of_le hb hB)))
       clear g2 HZ1 HZ0 HB)
    | (refine wpList_copyR rfl (.tmp 9) (.tmp 10) rfl (some ⟨w.heap.size + 1, 1, none⟩) A 12 12 l.length c rfl rfl (w.heap.size + 1) 1 (ringL l.length (List.replicate 12 0) (List.replicate 12 0)) 168 h2 l (min12 hl) (sl_pos HS2.out) (by rw [ringL_length rfl rfl]; omega) ?_
       intro w3 h3 g3
       have hr3 := Ring.of_heap (base := w.heap.size) (N := pad l) (C := List.replicate 12 0) (by rw [← ring_zero_splice l hl]; exact h3) (pad_length l hl) rfl (by omega)
       have hz3 := Blk.grown HZ2.out g3 (by omega)
       have hb3 := below_grown HB2.out g3 (Nat.le_refl _) (fun k hk => by injection hk with hk; omega)
       have Hr3 := Lib.hid hr3
       have Hz3 := Lib.hid hz3
       have Hb3 := Lib.hid hb3
       clear g3 HZ2 HB2 HS2 h2 h3 hr3 hz3 hb3))
  have hp := pad_length l hl
  have Hp := Lib.hid hp
  clear hp h
  go_loopw [4, 12] (fun _ i wr => ∃ k : Nat, k ≤ 12 ∧ i = .int .i64 k ∧ RingOf w l k wr) (fun _ i _ => 12 - (intOf i).toNat)
  case atStart => exact ⟨0, by omega, rfl, Hr3.out, Hz3.out, Hb3.out⟩
  case round =>
    clear Hr3 Hz3 Hb3
    obtain ⟨k, hk, rfl, hr, hz, hb⟩ := hrel
    by_cases hlt : k < 12
    · have c0 := hr.cC Hp.out k (by omega)
      have f0 := hr.fro (13 + k)
      obtain ⟨hr2, hg2⟩ := hr.setC Hp.out k (k : Int)
      rw [iotaZ_set k hlt] at hr2
      have hz2 := Blk.grown hz hg2 (by omega)
      have hb2 := below_grown hb hg2 (Nat.le_refl _) (fun k hk => by injection hk with hk; omega)
      have hE : RingOf w l (k + 1) (wr.setCell ⟨w.heap.size + 1, 13 + k, none⟩ (.int .i64 k)) := ⟨hr2, hz2, hb2⟩
      have HE := Lib.hid hE
      generalize (iotaZ k).getD k 0 = z at *
      clear hr hz hb hr2 hg2 hz2 hb2 hE
      go_wp2
      go_roundw
      case rel => exact ⟨k + 1, by omega, by go_num, HE.out⟩
      case measure => simp [intOf]; omega
    · obtain rfl : k = 12 := by omega
      rw [iotaZ_all] at hr
      have hh := hr.heap Hp.out rfl
      have Hh := Lib.hid hh
      have Hz := Lib.hid hz
      have Hb := Lib.hid hb
      clear hr hh hz hb
      go_wp2_with (first
        | (refine wpList_load_row rfl 168 (.tmp 3) rfl (w.heap.size + 1) rfl 168 (ics (ringL l.length (pad l) (iota 12))).toArray (0, 0) _ Hh.out Try.underlying168 rfl (by rw [ring_size]; simp [ics_length, ringL_length Hp.out (iota_length 12)]) ?_)
        | (refine wpList_store_ring rfl (.tmp 2) (.tmp 20) rfl rfl w.heap.size (ringL l.length (pad l) (iota 12)) rfl rfl 168 (List.replicate 25 0) Hz.out rfl (ringL_length Hp.out (iota_length 12)) ?_
           intro w5 h5 g5
           have hb5 := below_grown Hb.out g5 (Nat.le_refl _) (fun k hk => by injection hk with hk; omega)
           have H5 := Lib.hid h5
           clear g5 h5))
      exact bodyPost_ret (v := .agg (ics (ringL l.length (pad l) (iota 12))).toArray) (results_cell_row (fn := Try.f191) rfl _ w5 w.heap.size 168 _ (0, 0) _ rfl H5.out Try.underlying168 rfl (by rw [ring_size]; simp [ics_length, ringL_length Hp.out (iota_length 12)])) rfl ⟨rfl, hb5⟩

end Go.Proofs.Ytfkkbjbgjmaciaa
