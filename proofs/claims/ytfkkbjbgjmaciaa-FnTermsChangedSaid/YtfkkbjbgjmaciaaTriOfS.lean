/- The model's poOf: ears are cut off a list of numbers. -/
import Derived.Test.YtfkkbjbgjmaciaaL1
import Derived.Test.YtfkkbjbgjmaciaaTurnS
import Derived.Deep.LoopGhost
import Derived.IntWalk
namespace Go.Proofs.Ytfkkbjbgjmaciaa
set_option linter.unusedVariables false
open Go.RowKit

theorem SlI.cutIf0 {w : World} {B b c : Nat} {l : List Int} {a0 : Addr} (h : SlI w B (some ⟨b, 0, none⟩) l) (k : Nat) (hc : l.length ≤ c) : SlI w B (some (if c = k then a0 else ⟨b, k, none⟩)) (l.drop k) := by
  have := SlI.cutIf (a0 := a0) h k hc
  rwa [Nat.zero_add] at this
theorem list3 {l : List Int} (h : l.length = 0 + 3) : ∃ x y z, l = [x, y, z] := by
  match l, h with
  | [x, y, z], _ => exact ⟨x, y, z, rfl⟩
theorem heldApp {g : Nat} {w0 w w' : World} {o1 o2 : Nat} {v0 v1 : Value} {row : Option Nat} (h : w.cell? ⟨g, o1, none⟩ = some v0 ∧ w.cell? ⟨g, o2, none⟩ = some v1 ∧ Below w0.heap.size w0 w) (hg : w.grownBy w' row) (hr : ∀ k, row = some k → w0.heap.size ≤ k) (hne : ∀ k, row = some k → k ≠ g) :
    w'.cell? ⟨g, o1, none⟩ = some v0 ∧ w'.cell? ⟨g, o2, none⟩ = some v1 ∧ Below w0.heap.size w0 w' :=
  ⟨hg.cell h.1 (fun e => hne g e.symm rfl), hg.cell h.2.1 (fun e => hne g e.symm rfl), below_grown h.2.2 hg (Nat.le_refl _) hr⟩
theorem SlD.fresh (W : World) (y z : Int) (t : TypeId) : SlD (W.alloc (.cells #[.int .i64 y, .int .i64 z] t)).drew (W.heap.size + 1) (some ⟨W.heap.size, 0, none⟩) [(y, z)] :=
  SlD.one (by simp [go_sem]) (by simp [go_sem]) (Nat.lt_succ_self _)
theorem SlI.dr {w : World} {B : Nat} {A : Option Addr} {l : List Int} (h : SlI w B A l) : SlI w.drew B A l := h
theorem hu_sl {w : World} {B : Nat} {a b : Addr} {l : List Int} (e : a = b) (h : SlI w B (some a) l) : SlI w B (some b) l := e ▸ h
theorem SlI.drop0 {w : World} {B b : Nat} {l : List Int} (h : SlI w B (some ⟨b, 0, none⟩) l) (k : Nat) : SlI w B (some ⟨b, k, none⟩) (l.drop k) := fun h0 => by
  have hl : k < l.length := by simp at h0; omega
  obtain ⟨b', off', e, hb, hcell⟩ := h (by omega)
  cases e
  refine ⟨b, k, rfl, hb, fun j hj => ?_⟩
  have hj2 : k + j < l.length := by simp at hj; omega
  have e : (l.drop k).getD j 0 = l.getD (k + j) 0 := by simp [List.getD_eq_getElem?_getD]
  rw [e]
  have := hcell (k + j) hj2
  rwa [Nat.zero_add] at this
theorem SlI.noneOf {w : World} {B : Nat} {A : Option Addr} {l : List Int} (h : l.length = 0) : SlI w B A l := fun h0 => by omega
theorem SlI.cutIf1 {w : World} {B b c : Nat} {l : List Int} {a0 : Option Addr} (h : SlI w B (some ⟨b, 0, none⟩) l) (k : Nat) (hc : l.length ≤ c) : SlI w B (if c = k then a0 else some ⟨b, k, none⟩) (l.drop k) := fun h0 => by
  have hl : k < l.length := by simp at h0; omega
  rw [if_neg (by omega)]
  exact SlI.drop0 h k h0
theorem own_dr {w : World} {base e size n : Nat} {v : Value} {xs : List Value} (h : w.ownsRow base e size v n xs) (o : Obj) : (w.alloc o).drew.ownsRow base e size v n xs := (h.alloc o).drew
theorem spec_l1Own_n (A : Option Addr) (n c B : Nat) (l : List Int) (w : World) (hn : l.length = n) (h : SlI w B A l) (hB : B ≤ w.heap.size) (hl : n ≤ 1000000) :
    Calls Try.prog 114 #[.slice A n c] w fun e w' => ∃ A' c', e = .returned (.slice A' n c') ∧ w'.ownsRow w.heap.size 3 1 (.slice A' n c') n (ics l) ∧ Below w.heap.size w w' := by
  refine (spec_l1Own A n c B l w hn h hB hl).mono ?_
  rintro e w' ⟨A', c', rfl, ho, hb⟩
  subst hn
  exact ⟨A', c', rfl, ho, hb⟩
theorem own7form {w : World} {base e size n c : Nat} {A : Option Addr} {xs : List Value} (h : w.ownsRow base e size (.slice A (n + 3) c) (n + 3) xs) : ∃ g cap, Value.slice A (n + 3) c = .slice (some ⟨g, 0, none⟩) (n + 3) cap ∧ base ≤ g ∧ g < w.heap.size := h.form (by omega)
theorem step_own {ops : Array Oper} {o : Oper} {a : Act} {Q : Exit → Act → World → Prop} {K : Act → World → Prop} {E : Prop} (w : World) (hgd : o.guard = none) (x : Operand)
    (ho : o.op = .call { callee := .value (.func 114), args := #[x], argTypes := #[24] }) (A : Option Addr) (n c B : Nat) (l : List Int) (hx : a.eval x = .slice A n c) (hn : l.length = n) (h : SlI w B A l) (hB : B ≤ w.heap.size) (hl : n ≤ 1000000)
    (hK : ∀ A' c' w', w'.ownsRow w.heap.size 3 1 (.slice A' n c') n (ics l) → Below w.heap.size w w' → K (a.put o.dst (.slice A' n c')) w') :
    if Region.wanted o (yielded ops a.tmps) = true then Oper.wp Try.prog o a w K Q else E := by
  have hw : Region.wanted o (yielded ops a.tmps) = true := by simp [Region.wanted, hgd]
  rw [if_pos hw]
  have hrun : (execOp a.eval o).run Try.prog w = .ok (.enter 114 #[.slice A n c]) w := by
    have h1 : (#[x].map a.eval) = #[.slice A n c] := by simp [hx]
    unfold execOp
    simp only [ho, resolve, invoke, h1, Sem.run_bind, Result.andThen_ok, Act.eval]
    go_simp
  unfold Oper.wp
  rw [hrun, Oper.upon_enter]
  refine (spec_l1Own_n A n c B l w hn h hB hl).mono fun e w' hh => ?_
  obtain ⟨A', c', rfl, h1, h2⟩ := hh
  exact hK A' c' w' h1 h2
/-- numbers within bounds -/
def In12 (l : List Int) : Prop := ∀ i, i < l.length → 1 ≤ l.getD i 0 ∧ l.getD i 0 ≤ 12
/-- what holds at the head of the model's search -/
def Cuts (w : World) (q : List Int) (f : Nat) (vl vc vo : Value) (wr : World) : Prop :=
  ∃ (L C : List Int) (out : List (Int × Int)) (gl cl gc cc : Nat) (Ao : Option Addr) (co : Nat), vl = .slice (some ⟨gl, 0, none⟩) (f + 3) cl ∧ vc = .slice (some ⟨gc, 0, none⟩) (f + 3) cc ∧ vo = .slice Ao out.length co ∧
    L.length = f + 3 ∧ C.length = f + 3 ∧ f ≤ 9 ∧ In12 L ∧ out.length + f ≤ 9 ∧ ofS f L C out = poOfS q ∧ gl ≠ gc ∧
    wr.ownsRow w.heap.size 3 1 (.slice (some ⟨gl, 0, none⟩) (f + 3) cl) (f + 3) (ics L) ∧ wr.ownsRow w.heap.size 3 1 (.slice (some ⟨gc, 0, none⟩) (f + 3) cc) (f + 3) (ics C) ∧
    wr.ownsRow w.heap.size 161 2 (.slice Ao out.length co) out.length (dcs out) ∧ Below w.heap.size w wr

/-- corners numbered up to k, in a row behind block b -/
def Nums (w : World) (b k : Nat) (v : Value) (wr : World) : Prop :=
  ∃ A' c', v = .slice A' k c' ∧ wr.ownsRow b 3 1 (.slice A' k c') k (ics (iota k)) ∧ Below b w wr

set_option maxRecDepth 100000 in
set_option maxHeartbeats 6400000 in
theorem spec_poOf (A : Option Addr) (c B : Nat) (l : List Int) (w : World) (h : SlI w B A l) (hB : B ≤ w.heap.size) (hl : l.length ≤ 1048576) :
    Calls Try.prog 175 #[.slice A l.length c] w (RetD w (poOfS l).1 (poOfS l).2) := by
  cases hp : poB l.length
  · have hno : poOfS l = ([], false) := by unfold poOfS; rw [if_neg]; rw [hp]; simp
    have hres : RetD w (poOfS l).1 (poOfS l).2 (.returned (.tuple #[.slice none 0 0, .bool false])) w := by
      rw [hno]
      exact ⟨none, 0, rfl, World.ownsRow_nil _ _ _ _, Below.refl _ _⟩
    have Hres := Lib.hid hres
    clear hres h hno
    go_enter Try.func175, Try.ntmps175
    go_wp2_with (go_at_call 185; ((with_reducible refine (spec_poIs _ _ _ hp).mono ?_); rintro e w' ⟨rfl, rfl⟩))
    go_ret2
    exact Hres.out
  · have hn : 3 ≤ l.length ∧ l.length ≤ 12 := by
      unfold poB at hp
      simp at hp
      omega
    obtain ⟨hn3, hn12⟩ := hn
    go_enter Try.func175, Try.ntmps175
    go_wp2_with (go_at_call 185; ((with_reducible refine (spec_poIs _ _ _ hp).mono ?_); rintro e w' ⟨rfl, rfl⟩))
    refine (spec_l1All A c B l 1 12 _ h (by omega)).mono ?_
    rintro e w1 ⟨rfl, rfl⟩
    cases ha : allB l 1 12
    · have hno : poOfS l = ([], false) := by unfold poOfS; rw [if_neg]; rw [ha]; simp
      have hres : RetD w (poOfS l).1 (poOfS l).2 (.returned (.tuple #[.slice none 0 0, .bool false])) w := by
        rw [hno]
        exact ⟨none, 0, rfl, World.ownsRow_nil _ _ _ _, Below.refl _ _⟩
      have Hres := Lib.hid hres
      clear hres h hno
      go_wp2
      go_ret2
      exact Hres.out
    · have Hp := Lib.hid hp
      have Ha := Lib.hid ha
      clear hp ha
      go_wp2_with fail
      refine (spec_l1Own A l.length c B l _ rfl h hB (by omega)).mono ?_
      rintro e w1 ⟨Al, cl, rfl, ol1, hb1⟩
      obtain ⟨gl, capl, hv, _, _⟩ := ol1.form (by omega)
      cases hv
      have Hol := Lib.hid ol1
      have Hb1 := Lib.hid hb1
      clear ol1 hb1 h
      go_wp2
      go_loopw [5, 6, 27] (fun v _ i wr => ∃ k : Nat, k ≤ l.length ∧ i = .int .i64 k ∧ Nums w1 w1.heap.size k v wr) (fun _ _ i _ => l.length - (intOf i).toNat)
      case atStart => exact ⟨0, Nat.zero_le _, rfl, some ⟨w1.heap.size, 0, none⟩, 0, rfl, own_madeI w1 (Nat.le_refl _), (Below.refl _ _).alloc (Nat.le_refl _) _⟩
      case round =>
        obtain ⟨k, hk, rfl, A', c', rfl, ho, hb⟩ := hrel
        have hob := ho.lt
        have Hob := Lib.hid hob
        have hsz := hb.size
        clear hob
        by_cases hlt : k < l.length
        · have hst := iota_succ k
          have hLl := iota_length k
          have Hst := Lib.hid hst
          have HLl := Lib.hid hLl
          generalize iota k = L at *
          have own2 := ho.alloc (.cells #[.int .i64 k] 3)
          have hb2 := hb.alloc hsz (.cells #[.int .i64 k] 3)
          clear hst hLl ho hb
          go_wp2_with (at_builtin; refine append1In _ rfl _ _ rfl w1.heap.size (.slice A' k c') k L HLl.out rfl own2 wr.heap.size k rfl ?c1 ?c2 ?c3 ?_; (case c1 => simp [go_sem]); (case c2 => omega); (case c3 => simp; omega); intro A3 c3 w3 own3 hg3)
          have hb3 := hb2.grown hg3 hb2.size (fun j hj => (Hob.out j hj).1)
          have hE : Nums w1 w1.heap.size (k + 1) (.slice A3 (k + 1) c3) w3 := ⟨A3, c3, rfl, by rw [Hst.out]; exact own3, hb3⟩
          have HE := Lib.hid hE
          clear hE own3 hg3 hb3 hb2 own2
          go_wp2
          go_roundw
          case rel => exact ⟨k + 1, by omega, by go_num, HE.out⟩
          case measure => simp [intOf]; omega
        · obtain rfl : k = l.length := by omega
          obtain ⟨gc, capc, hv, hgc, _⟩ := ho.form (by omega)
          cases hv
          have hgl := (Hol.out.lt _ rfl).2
          have hS : Cuts w l (l.length - 3) (.slice (some ⟨gl, 0, none⟩) l.length cl) (.slice (some ⟨gc, 0, none⟩) l.length c') (.slice none 0 0) wr := by
            have e : l.length - 3 + 3 = l.length := by omega
            refine ⟨l, iota l.length, [], gl, cl, gc, c', none, 0, by rw [e], by rw [e], rfl, by omega, by rw [iota_length]; omega, by omega, ?_, by simp; omega, ?_, by omega, ?_, ?_, World.ownsRow_nil _ _ _ _, ?_⟩
            · exact fun i hi => allB_iff.1 Ha.out i hi
            · unfold poOfS
              rw [if_pos ⟨Hp.out, Ha.out⟩]
            · rw [e]; exact own_kept Hol.out hb
            · rw [e]; exact ho.mono Hb1.out.size
            · exact below_kept Hb1.out (Nat.le_refl _) hb
          have HS := Lib.hid hS
          clear hS ho hb Hol Hb1 Hob
          go_wp2
          go_loopg [4, 5, 7, 8, 9, 10, 11, 12] (l.length - 3) (fun f s4 s5 s7 s8 s9 s10 s11 s12 wx => Cuts w l f s4 s5 s7 wx)
          case atStart => exact HS.out
          case round =>
            clear HS
            obtain ⟨L, C, out, gl, cl, gc, cc, Ao, co, rfl, rfl, rfl, hL, hC, hf9, h12, ho9, hof, hne, hol, hoc, hoo, hb⟩ := hrel
            have HL := Lib.hid hL
            have HC := Lib.hid hC
            have H12 := Lib.hid h12
            have Hof := Lib.hid hof
            have Hol := Lib.hid hol
            have Hoc := Lib.hid hoc
            have Hoo := Lib.hid hoo
            have Hb := Lib.hid hb
            cases gk with
            | zero =>
              obtain ⟨x, y, z, rfl⟩ := list3 hL
              have c0 : wr.cell? ⟨gl, 0, none⟩ = some (.int .i64 x) := by rw [hol.cellAt 0 (by omega)]; rfl
              have c1 : wr.cell? ⟨gl, 1, none⟩ = some (.int .i64 y) := by rw [hol.cellAt 1 (by omega)]; rfl
              have c2 : wr.cell? ⟨gl, 2, none⟩ = some (.int .i64 z) := by rw [hol.cellAt 2 (by omega)]; rfl
              have hsd := SlD.of_own hoo
              have hfin : ofS 0 [x, y, z] C out = (sortD out, decide (x = 1 ∧ y = 1 ∧ z = 1)) := by
                unfold ofS
                have : ([x, y, z] = [1, 1, 1]) ↔ (x = 1 ∧ y = 1 ∧ z = 1) := by simp
                rw [decide_eq_decide.2 this]
              rw [hof] at hfin
              have Hfin := Lib.hid hfin
              clear hfin hL hC h12 hof hol hoc hoo
              go_wp2_with fail
              refine (spec_poSorted Ao co _ out _ hsd (Nat.le_refl _) (by omega)).mono ?_
              rintro e w5 ⟨A9, c9, rfl, o9, b9⟩
              have hd9 := below_kept hb (Nat.le_refl _) b9
              have hr9 := o9.mono hb.size
              have d0 := cell_kept b9 c0
              have d1 := cell_kept b9 c1
              have d2 := cell_kept b9 c2
              have Hd9 := Lib.hid hd9
              have Hr9 := Lib.hid hr9
              have hres : ∀ b, decide (x = 1 ∧ y = 1 ∧ z = 1) = b → ∀ wz, Below w5.heap.size w5 wz → RetD w (poOfS l).1 (poOfS l).2 (.returned (.tuple #[.slice A9 (sortD out).length c9, .bool b])) wz := by
                intro b hbb wz hwz
                rw [Hfin.out, hbb]
                exact ⟨A9, c9, rfl, own_kept Hr9.out hwz, below_kept Hd9.out (Nat.le_refl _) hwz⟩
              have Hres := Lib.hid hres
              clear hres hd9 hr9 b9 o9 hb c0 c1 c2 hsd
              by_cases hx : x = 1
              · subst hx
                by_cases hy : y = 1
                · subst hy
                  by_cases hz : z = 1
                  · subst hz
                    go_wp2
                    go_quiet (fail)
                    go_wp2
                    go_ret2
                    exact Hres.out true rfl _ (below_drewN (Below.refl _ _) _)
                  · have hz' : (z == 1) = false := by simpa using hz
                    go_wp2
                    go_quiet (fail)
                    go_wp2
                    go_ret2
                    exact Hres.out false (by simp [hz]) _ (below_drewN (Below.refl _ _) _)
                · have hy' : (y == 1) = false := by simpa using hy
                  go_wp2
                  go_quiet (fail)
                  go_wp2
                  go_ret2
                  exact Hres.out false (by simp [hy]) _ (below_drewN (Below.refl _ _) _)
              · have hx' : (x == 1) = false := by simpa using hx
                go_wp2
                go_quiet (fail)
                go_wp2
                go_ret2
                exact Hres.out false (by simp [hx]) _ (below_drewN (Below.refl _ _) _)
            | succ f =>
              obtain ⟨m, hm⟩ : ∃ m, m = f + 1 + 3 := ⟨_, rfl⟩
              rw [← hm] at HL HC Hol Hoc ⊢
              have Hm := Lib.hid hm
              have m2 : (3 : Int) < (m : Int) := by omega
              have m3 : m ≤ 12 := by omega
              have m4 : 4 ≤ m := by omega
              clear hL hC h12 hof hol hoc hoo hb hm
              go_wp2_with fail
              have hlm : L.length = m := HL.out
              have Hlm := Lib.hid hlm
              clear hlm
              go_loop [8, 9, 10, 40] (fun s8 _ _ i => ∃ k : Nat, k ≤ m ∧ i = .int .i64 k ∧ s8 = .int .i64 (at1 L k)) (fun _ _ _ i => m - (intOf i).toNat)
              case atStart => exact ⟨0, Nat.zero_le _, rfl, rfl⟩
              case round =>
                obtain ⟨k, hk, rfl, rfl⟩ := hrel
                have hatb := at1_lt L k
                by_cases hlt : k < m
                · have n0 : wr.cell? ⟨gl, k, none⟩ = some (.int .i64 (L.getD k 0)) := by rw [Hol.out.cellAt k (by omega), ics_get _ _ (by rw [HL.out]; exact hlt)]
                  have i0 : (0 : Int) ≤ (k : Int) := by omega
                  have i1 : (k : Int) < (m : Int) := by omega
                  have hst : at1 L (k + 1) = if L.getD k 0 = 1 ∧ at1 L k < 0 then (k : Int) else at1 L k := rfl
                  have Hst := Lib.hid hst
                  clear hst
                  generalize L.getD k 0 = x at *
                  generalize at1 L k = y at *
                  by_cases hx : x = 1
                  · subst hx
                    by_cases hy : y < 0
                    · go_wp2
                      go_round
                      case rel => exact ⟨k + 1, by omega, by go_num, by rw [Hst.out, if_pos ⟨rfl, hy⟩]⟩
                      case measure => simp [intOf]; omega
                    · go_wp2
                      go_round
                      case rel => exact ⟨k + 1, by omega, by go_num, by rw [Hst.out, if_neg (by omega)]⟩
                      case measure => simp [intOf]; omega
                  · have hx' : (x == 1) = false := by simpa using hx
                    go_wp2
                    go_round
                    case rel => exact ⟨k + 1, by omega, by go_num, by rw [Hst.out, if_neg (by intro h; exact hx h.1)]⟩
                    case measure => simp [intOf]; omega
                · obtain rfl : k = m := by omega
                  by_cases hneg : at1 L k < 0
                  · have hno : poOfS l = ([], false) := by
                      rw [← Hof.out]
                      unfold ofS
                      rw [HL.out, if_pos hneg]
                    have hres : RetD w (poOfS l).1 (poOfS l).2 (.returned (.tuple #[.slice none 0 0, .bool false])) wr := by
                      rw [hno]
                      exact ⟨none, 0, rfl, World.ownsRow_nil _ _ _ _, Hb.out⟩
                    have Hres := Lib.hid hres
                    clear hres hno
                    go_wp2
                    go_ret2
                    exact Hres.out
                  · have hone := at1_one L k (by omega)
                    have hofs := Hof.out
                    unfold ofS at hofs
                    rw [HL.out, if_neg hneg] at hofs
                    have hlt2 : (at1 L k).toNat < k := by omega
                    have hkv : at1 L k = ((at1 L k).toNat : Int) := by omega
                    generalize (at1 L k).toNat = p at *
                    obtain ⟨a1, a2, a3, a4, a5⟩ := around p k m4 hlt2
                    have hlow : lowB L p = decide ((dec2 L p).getD ((p + k - 1) % k) 0 < 1 ∨ (dec2 L p).getD ((p + 1) % k) 0 < 1) := by unfold lowB; rw [HL.out]
                    have hdec : dec2 L p = decr (decr L ((p + k - 1) % k)) ((p + 1) % k) := by unfold dec2; rw [HL.out]
                    have hear : earD C k p = (min (C.getD ((p + k - 1) % k) 0) (C.getD ((p + 1) % k) 0), max (C.getD ((p + k - 1) % k) 0) (C.getD ((p + 1) % k) 0)) := rfl
                    have ha0 : ((p : Int) + (k : Int) - 1).tmod (k : Int) = (((p + k - 1) % k : Nat) : Int) := by
                      rw [show (p : Int) + (k : Int) - 1 = ((p + k - 1 : Nat) : Int) by omega]
                      rfl
                    have hb0 : ((p : Int) + 1).tmod (k : Int) = (((p + 1) % k : Nat) : Int) := by
                      rw [show (p : Int) + 1 = ((p + 1 : Nat) : Int) by omega]
                      rfl
                    have hxa := H12.out ((p + k - 1) % k) (by rw [HL.out]; exact a1)
                    have hxb := H12.out ((p + 1) % k) (by rw [HL.out]; exact a2)
                    generalize (p + k - 1) % k = a at *
                    generalize (p + 1) % k = b at *
                    have Hofs := Lib.hid hofs
                    have Hlow := Lib.hid hlow
                    have Hdec := Lib.hid hdec
                    have Hear := Lib.hid hear
                    have Hone := Lib.hid hone
                    clear hofs hlow hdec hear hone hneg hatb
                    rw [hkv]
                    have Hkv := Lib.hid hkv
                    clear hkv
                    have p0 : (0 : Int) ≤ (p : Int) := by omega
                    have p1 : ¬ (p : Int) < 0 := by omega
                    have hw1 : IntKind.i64.wrap ((p : Int) + (k : Int)) = (p : Int) + (k : Int) := IntWalk.i64_in _ (by omega)
                    have hw2 : IntKind.i64.wrap ((p : Int) + (k : Int) - 1) = (p : Int) + (k : Int) - 1 := IntWalk.i64_in _ (by omega)
                    have hw3 : IntKind.i64.wrap ((p : Int) + 1) = (p : Int) + 1 := IntWalk.i64_in _ (by omega)
                    go_wp2
                    go_quiet (fail)
                    clear hw1 hw2 hw3 ha0 hb0
                    have hol1 := own_drewN Hol.out nq
                    have hoc1 := own_drewN Hoc.out nq
                    have hoo1 := own_drewN Hoo.out nq
                    have hb1 := below_drewN Hb.out nq
                    clear Hol Hoc Hoo Hb
                    generalize wr.drewN nq = W1 at *
                    have ca : W1.cell? ⟨gl, a, none⟩ = some (.int .i64 (L.getD a 0)) := by rw [hol1.cellAt a (by omega), ics_get _ _ (by rw [HL.out]; exact a1)]
                    have fa := hol1.frozenAt a
                    obtain ⟨hol2, hg2⟩ := hol1.stored a (.int .i64 (L.getD a 0 - 1))
                    rw [ics_set, show L.set a (L.getD a 0 - 1) = decr L a from rfl] at hol2
                    have hoc2 := own_far hoc1 hg2 (by intro k hk e; simp [Value.ownBlock] at hk; injection e with e; omega)
                    have hoo2 := own_far hoo1 hg2 (own_ne hoo1 hol1 (by decide))
                    have hgw : w.heap.size ≤ gl := (hol1.lt _ rfl).1
                    have hb2 := below_grown hb1 hg2 (Nat.le_refl _) (fun k hk => by injection hk with hk; omega)
                    have cb : (W1.setCell ⟨gl, a, none⟩ (.int .i64 (L.getD a 0 - 1))).cell? ⟨gl, b, none⟩ = some (.int .i64 ((decr L a).getD b 0)) := by rw [hol2.cellAt b (by omega), ics_get _ _ (by rw [decr_length, HL.out]; exact a2)]
                    have fb := hol2.frozenAt b
                    have hyb : 1 ≤ (decr L a).getD b 0 ∧ (decr L a).getD b 0 ≤ 12 := by
                      rw [decr_get L a b (by rw [HL.out]; exact a2), if_neg (by omega)]
                      exact hxb
                    obtain ⟨hol3, hg3⟩ := hol2.stored b (.int .i64 ((decr L a).getD b 0 - 1))
                    rw [ics_set, show (decr L a).set b ((decr L a).getD b 0 - 1) = decr (decr L a) b from rfl, ← Hdec.out] at hol3
                    have hoc3 := own_far hoc2 hg3 (by intro k hk e; simp [Value.ownBlock] at hk; injection e with e; omega)
                    have hoo3 := own_far hoo2 hg3 (own_ne hoo2 hol2 (by decide))
                    have hb3 := below_grown hb2 hg3 (Nat.le_refl _) (fun k hk => by injection hk with hk; omega)
                    have hDl : (dec2 L p).length = k := by rw [dec2_length]; exact HL.out
                    have HDl := Lib.hid hDl
                    clear hDl
                    have ea : ((W1.setCell ⟨gl, a, none⟩ (.int .i64 (L.getD a 0 - 1))).setCell ⟨gl, b, none⟩ (.int .i64 ((decr L a).getD b 0 - 1))).cell? ⟨gl, a, none⟩ = some (.int .i64 ((dec2 L p).getD a 0)) := by rw [hol3.cellAt a (by omega), ics_get _ _ (by rw [HDl.out]; exact a1)]
                    have eb : ((W1.setCell ⟨gl, a, none⟩ (.int .i64 (L.getD a 0 - 1))).setCell ⟨gl, b, none⟩ (.int .i64 ((decr L a).getD b 0 - 1))).cell? ⟨gl, b, none⟩ = some (.int .i64 ((dec2 L p).getD b 0)) := by rw [hol3.cellAt b (by omega), ics_get _ _ (by rw [HDl.out]; exact a2)]
                    have hge : ∀ i, i < k → (dec2 L p).getD i 0 = (dec2 L p).getD i 0 := fun _ _ => rfl
                    obtain ⟨W3, hW3⟩ : ∃ W3, W3 = (W1.setCell ⟨gl, a, none⟩ (.int .i64 (L.getD a 0 - 1))).setCell ⟨gl, b, none⟩ (.int .i64 ((decr L a).getD b 0 - 1)) := ⟨_, rfl⟩
                    rw [← hW3] at hol3 hoc3 hoo3 hb3
                    have HW3 := Lib.hid hW3
                    have Hol3 := Lib.hid hol3
                    have Hoc3 := Lib.hid hoc3
                    have Hoo3 := Lib.hid hoo3
                    have Hb3 := Lib.hid hb3
                    have Hmem : Hid (∀ i, i < k → i ≠ p → lowB L p = false → 1 ≤ (dec2 L p).getD i 0 ∧ (dec2 L p).getD i 0 ≤ 12) := Lib.hid (fun i hi _ hlo => by
                      have h1 := dec2_get L p i (by rw [HL.out]; exact m4) (by rw [HL.out]; exact hlt2) (by rw [HL.out]; exact hi)
                      have h2 := H12.out i (by rw [HL.out]; exact hi)
                      rw [Hlow.out] at hlo
                      simp only [decide_eq_false_iff_not, not_or] at hlo
                      by_cases e1 : i = a
                      · subst e1; omega
                      · by_cases e2 : i = b
                        · subst e2; omega
                        · have e3 : (dec2 L p).getD i 0 = L.getD i 0 := by
                            rw [Hdec.out, decr_get _ _ _ (by rw [decr_length, HL.out]; exact hi), decr_get _ _ _ (by rw [HL.out]; exact hi), if_neg (by omega), if_neg (by omega)]
                          rw [e3]; exact h2)
                    have hlowB : lowB L p = decide ((dec2 L p).getD a 0 < 1 ∨ (dec2 L p).getD b 0 < 1) := Hlow.out
                    have HlowB := Lib.hid hlowB
                    obtain ⟨_, _⟩ := hxa
                    obtain ⟨_, _⟩ := hyb
                    clear hol1 hol2 hol3 hoc1 hoc2 hoc3 hoo1 hoo2 hoo3 hg2 hg3 hb1 hb2 hb3 hge hW3 hlowB hxb Hdec Hlow
                    generalize L.getD a 0 = x at *
                    generalize (decr L a).getD b 0 = y at *
                    have b0 : (0 : Int) ≤ (a : Int) := by omega
                    have b1 : (a : Int) < (k : Int) := by omega
                    have b2 : (0 : Int) ≤ (b : Int) := by omega
                    have b3 : (b : Int) < (k : Int) := by omega
                    have hfail : lowB L p = true → RetD w (poOfS l).1 (poOfS l).2 (.returned (.tuple #[.slice none 0 0, .bool false])) W3 := fun hlo => by
                      have hno : poOfS l = ([], false) := by rw [← Hofs.out, if_pos hlo]
                      rw [hno]
                      exact ⟨none, 0, rfl, World.ownsRow_nil _ _ _ _, Hb3.out⟩
                    have Hfail := Lib.hid hfail
                    clear hfail
                    by_cases h1 : (dec2 L p).getD a 0 < 1
                    · have hlo : lowB L p = true := by rw [HlowB.out]; exact decide_eq_true (Or.inl h1)
                      have hres := Hfail.out hlo
                      have Hres := Lib.hid hres
                      clear hres hlo
                      generalize (dec2 L p).getD a 0 = xa at *
                      generalize (dec2 L p).getD b 0 = xb at *
                      go_wp2
                      rw [← HW3.out]
                      go_ret2
                      exact Hres.out
                    · by_cases h2 : (dec2 L p).getD b 0 < 1
                      · have hlo : lowB L p = true := by rw [HlowB.out]; exact decide_eq_true (Or.inr h2)
                        have hres := Hfail.out hlo
                        have Hres := Lib.hid hres
                        clear hres hlo
                        generalize (dec2 L p).getD a 0 = xa at *
                        generalize (dec2 L p).getD b 0 = xb at *
                        go_wp2
                        rw [← HW3.out]
                        go_ret2
                        exact Hres.out
                      · have hlo : lowB L p = false := by rw [HlowB.out]; exact decide_eq_false (fun h => h.elim h1 h2)
                        have Hlo := Lib.hid hlo
                        clear hlo
                        generalize (dec2 L p).getD a 0 = xa at *
                        generalize (dec2 L p).getD b 0 = xb at *
                        go_wp2_with fail
                        rw [← HW3.out]
                        clear ea eb HW3 ca cb fa fb
                        have ca : W3.cell? ⟨gc, a, none⟩ = some (.int .i64 (C.getD a 0)) := by rw [Hoc3.out.cellAt a (by omega), ics_get _ _ (by rw [HC.out]; exact a1)]
                        have cb : W3.cell? ⟨gc, b, none⟩ = some (.int .i64 (C.getD b 0)) := by rw [Hoc3.out.cellAt b (by omega), ics_get _ _ (by rw [HC.out]; exact a2)]
                        generalize C.getD a 0 = u at *
                        generalize C.getD b 0 = v at *
                        have Hnc : Hid (∀ k, (Value.slice Ao out.length co).ownBlock = some k → k ≠ gc) := Lib.hid (fun k hk e => own_ne Hoo3.out Hoc3.out (by decide) k hk (by rw [e]; rfl))
                        have Hz3 := Lib.hid Hb3.out.size
                        have hout6 : out.length ≤ 1000000 := by omega
                        have h16 : 1 ≤ 1000000 := by omega
                        go_region_held3 (fun w' => w'.cell? ⟨gc, a, none⟩ = some (.int .i64 u) ∧ w'.cell? ⟨gc, b, none⟩ = some (.int .i64 v) ∧ Below w.heap.size w w')
                          (first
                            | assumption
                            | exact ⟨ca, cb, Hb3.out.drew⟩
                            | exact drew2 (kept2 ⟨ca, cb, Hb3.out⟩ ((Below.refl _ _).alloc (Nat.le_refl _) _) (Nat.le_refl _))
                            | exact kept2 (w := W3.drew) ⟨ca, cb, Hb3.out.drew⟩ ((Below.refl _ _).alloc (Nat.le_refl _) _) (Nat.le_refl _)
                            | (refine heldApp ?_ hg5 (fun j hj => (Hoo3.out.lt j hj).1) Hnc.out; assumption))
                          (first
                            | (go_at_call 111; refine (spec_l1Least _ _ _).mono ?_; rintro e w' ⟨rfl, rfl⟩)
                            | (go_at_call 179; refine (spec_l1Most _ _ _).mono ?_; rintro e w' ⟨rfl, rfl⟩)
                            | (refine step_appendN _ rfl _ _ rfl w.heap.size (.slice Ao out.length co) out.length out rfl rfl ?_ (some ⟨W3.heap.size, 0, none⟩) 1 1 [(min u v, max u v)] (W3.heap.size + 1) (out.length + 1) rfl rfl rfl ?_ ?_ ?_ ?_ ?_
                               · (first | exact (Hoo3.out.alloc _).drew | exact (Hoo3.out.drew).alloc _)
                               · exact SlD.fresh W3 _ _ _
                               · exact hout6
                               · exact h16
                               · exact (Hb3.out.alloc Hz3.out _).drew.size
                               intro A5 c5 w5 own5 hg5))
                        rename_i hS5
                        have hb5 := hS5.2.2
                        have hol5 := own_far (own_dr Hol3.out _) hg5 (own_ne Hol3.out Hoo3.out (by decide))
                        have hoc5 := own_far (own_dr Hoc3.out _) hg5 (own_ne Hoc3.out Hoo3.out (by decide))
                        have Hol5 := Lib.hid hol5
                        have Hoc5 := Lib.hid hoc5
                        have Hoo5 := Lib.hid own5
                        have Hb5 := Lib.hid hb5
                        have hcl : k ≤ cl := own_capI hol5
                        have hcc : k ≤ cc := own_capI hoc5
                        have HDlT : Hid (((dec2 L p).take p).length = p) := Lib.hid (by rw [List.length_take, HDl.out]; omega)
                        have HDlD : Hid (((dec2 L p).drop (p + 1)).length = k - (p + 1)) := Lib.hid (by rw [List.length_drop, HDl.out])
                        have HDlC : Hid ((dec2 L p).length ≤ cl) := Lib.hid (by rw [HDl.out]; exact hcl)
                        have HCT : Hid ((C.take p).length = p) := Lib.hid (by rw [List.length_take, HC.out]; omega)
                        have HCD : Hid ((C.drop (p + 1)).length = k - (p + 1)) := Lib.hid (by rw [List.length_drop, HC.out])
                        have HCC : Hid (C.length ≤ cc) := Lib.hid (by rw [HC.out]; exact hcc)
                        have q1 : (p : Int) ≤ (cl : Int) := by omega
                        have q2 : (0 : Int) ≤ (p : Int) + 1 := by omega
                        have q3 : (p : Int) + 1 ≤ (k : Int) := by omega
                        have q4 : (k : Int) ≤ (cl : Int) := by omega
                        have q5 : (p : Int) ≤ (cc : Int) := by omega
                        have q6 : (k : Int) ≤ (cc : Int) := by omega
                        have hpw : IntKind.i64.wrap ((p : Int) + 1) = (p : Int) + 1 := IntWalk.i64_in _ (by omega)
                        have hp6 : p ≤ 1000000 := by omega
                        have hk6 : k - (p + 1) ≤ 1000000 := by omega
                        have HN26 : Hid (f + 3 = p + (k - (p + 1))) := Lib.hid (by have := Hm.out; omega)
                        have hpn : ((p : Int) + 1).toNat = p + 1 := by omega
                        have HZ26 : Hid (cl = p + 1 → ((dec2 L p).drop (p + 1)).length = 0) := Lib.hid (fun e => by rw [List.length_drop, HDl.out]; omega)
                        have HZ27 : Hid (cc = p + 1 → (C.drop (p + 1)).length = 0) := Lib.hid (fun e => by rw [List.length_drop, HC.out]; omega)
                        clear hS5 hb5 hol5 hoc5 own5 hg5 ca cb
                        go_wp2_with fail
                        go_region_held3 (fun w' => Below w5.heap.size w5 w')
                          (first
                            | assumption
                            | exact (Below.refl _ _).drew
                            | exact b6
                            | exact below_kept (Below.refl _ _).drew (Nat.le_refl _) b6
                            | (refine below_grown ?_ g7 (Nat.le_refl _) (fun j hj => (o6.lt j hj).1); assumption))
                          (first
                            | (refine step_own w5.drew rfl _ rfl (some ⟨gl, 0, none⟩) p _ w5.heap.size ((dec2 L p).take p) rfl HDlT.out ((SlI.of_own Hol5.out).take p).dr (Nat.le_refl _) hp6 ?_; intro A6 c6 w6 o6 b6)
                            | (refine step_appendNI _ rfl _ _ rfl w5.heap.size (.slice A6 p c6) p ((dec2 L p).take p) HDlT.out rfl o6 _ (k - (p + 1)) _ ((dec2 L p).drop (p + 1)) w5.heap.size (f + 3) ?_ rfl HDlD.out ?_ ?_ ?_ b6.size ?_
                               · exact HN26.out
                               · first
                                 | exact (SlI.cutIf1 (SlI.of_own Hol5.out) (p + 1) HDlC.out).dr.below b6
                               · exact hp6
                               · exact hk6
                               intro A7 c7 w7 o7 g7))
                        generalize (if cl = p + 1 then some (⟨gl, 0, none⟩ : Addr) else some ⟨gl, p + 1, none⟩) = u121
                        rename_i hS7
                        obtain ⟨gl7, cap7, hv7, hgl7, _⟩ := own7form o7
                        cases hv7
                        have hoc7 := own_kept Hoc5.out hS7
                        have hoo7 := own_kept Hoo5.out hS7
                        have hb7 := below_kept Hb5.out (Nat.le_refl _) hS7
                        have hz7 : gl7 < w7.heap.size := (o7.lt _ rfl).2
                        have Hol7 : Hid (w7.ownsRow w5.heap.size 3 1 (.slice (some ⟨gl7, 0, none⟩) (f + 3) c7) (f + 3) (ics (cutL L p))) := Lib.hid (by
                          unfold cutL
                          rw [List.eraseIdx_eq_take_drop_succ]
                          exact o7)
                        have Hoc7 := Lib.hid hoc7
                        have Hoo7 := Lib.hid hoo7
                        have Hb7 := Lib.hid hb7
                        clear hS7 hoc7 hoo7 hb7 o7 g7 o6 b6 Hol5 Hoc5 Hoo5
                        go_wp2_with fail
                        go_region_held3 (fun w' => Below w7.heap.size w7 w')
                          (first
                            | assumption
                            | exact (Below.refl _ _).drew
                            | exact b8
                            | exact below_kept (Below.refl _ _).drew (Nat.le_refl _) b8
                            | (refine below_grown ?_ g9 (Nat.le_refl _) (fun j hj => (o8.lt j hj).1); assumption))
                          (first
                            | (refine step_own w7.drew rfl _ rfl (some ⟨gc, 0, none⟩) p _ w7.heap.size (C.take p) rfl HCT.out ((SlI.of_own Hoc7.out).take p).dr (Nat.le_refl _) hp6 ?_; intro A8 c8 w8 o8 b8)
                            | (refine step_appendNI _ rfl _ _ rfl w7.heap.size (.slice A8 p c8) p (C.take p) HCT.out rfl o8 _ (k - (p + 1)) _ (C.drop (p + 1)) w7.heap.size (f + 3) ?_ rfl HCD.out ?_ ?_ ?_ b8.size ?_
                               · exact HN26.out
                               · first
                                 | exact (SlI.cutIf1 (SlI.of_own Hoc7.out) (p + 1) HCC.out).dr.below b8
                               · exact hp6
                               · exact hk6
                               intro A9 c9 w9 o9 g9))
                        generalize (if cc = p + 1 then some (⟨gc, 0, none⟩ : Addr) else some ⟨gc, p + 1, none⟩) = u130
                        rename_i hS9
                        obtain ⟨gc9, cap9, hv9, hgc9, _⟩ := own7form o9
                        cases hv9
                        have hE : Cuts w l f (.slice (some ⟨gl7, 0, none⟩) (f + 3) c7) (.slice (some ⟨gc9, 0, none⟩) (f + 3) c9) (.slice A5 (out.length + 1) c5) w9 := by
                          have hkk := Hm.out
                          have hz5 := Hb5.out.size
                          have hcut : (cutL L p).length = f + 3 := by rw [cutL_length L p (by rw [HL.out]; exact hlt2), HL.out]; omega
                          refine ⟨cutL L p, C.eraseIdx p, out ++ [(min u v, max u v)], gl7, c7, gc9, c9, A5, c5, rfl, rfl, by simp, hcut, ?_, by omega, ?_, by simp; omega, ?_, by omega, ?_, ?_, ?_, ?_⟩
                          · rw [List.length_eraseIdx, HC.out, if_pos hlt2]; omega
                          · intro j hj
                            obtain ⟨i, hi, hne, e⟩ := cutL_from L p j (by rw [HL.out]; exact hlt2) hj
                            rw [e]
                            exact Hmem.out i (by rw [HL.out] at hi; exact hi) hne Hlo.out
                          · rw [← Hofs.out, if_neg (by rw [Hlo.out]; simp), Hear.out]
                          · exact (own_kept Hol7.out hS9).mono hz5
                          · rw [List.eraseIdx_eq_take_drop_succ]
                            exact o9.mono (Nat.le_trans Hb7.out.size (Nat.le_refl _))
                          · have := own_kept Hoo7.out hS9
                            simpa using this
                          · exact below_kept Hb7.out (Nat.le_refl _) hS9
                        have HE := Lib.hid hE
                        clear hE hS9 o9 g9 o8 b8 Hol7 Hoc7 Hoo7
                        go_wp2
                        go_roundg f
                        case measure => omega
                        case rel => exact HE.out

theorem spec_IsQuiddity (A : Option Addr) (c B : Nat) (l : List Int) (w : World) (h : SlI w B A l) (hB : B ≤ w.heap.size) (hl : l.length ≤ 1048576) (hlc : l.length ≤ c) :
    Calls Try.prog 110 #[.slice A l.length c] w fun e w' => e = .returned (.bool (isQ l)) ∧ Below w.heap.size w w' := by
  have hq := isQ_poOfS l
  have Hq := Lib.hid hq
  clear hq
  go_enter Try.func110, Try.ntmps110
  go_wp2_with fail
  refine (spec_poOf A c B l _ h hB hl).mono ?_
  rintro e w1 ⟨A', c', rfl, ho, hb⟩
  clear ho h
  go_wp2
  go_ret
  exact ⟨ret_bool Hq.out, hb⟩
end Go.Proofs.Ytfkkbjbgjmaciaa
