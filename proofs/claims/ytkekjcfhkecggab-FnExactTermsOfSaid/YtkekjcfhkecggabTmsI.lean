/- TermsOf: the program's closure that calls itself, and the law's walk. -/
import Derived.Test.YtkekjcfhkecggabTmsW
namespace Go.Proofs.Ytkekjcfhkecggab
set_option linter.unusedVariables false
open Go.RowKit

set_option maxHeartbeats 800000 in
theorem impl_product (A : Option Addr) (n c B : Nat) (l : List Int) (w : World) (hn : l.length = n) (h : SlI w B A l) (hsm : Small l) (hl : n ≤ 10) :
    Calls Try.prog 50 #[.slice A n c] w fun e w' => e = .returned (.int .i64 (prodL l)) ∧ w = w' := by
  subst hn
  have Hsm := Lib.hid hsm
  clear hsm
  go_enter Try.func50, Try.ntmps50
  go_wp2
  go_loop [3, 5, 8] (fun a _ i => ∃ k : Nat, k ≤ l.length ∧ i = .int .i64 k ∧ a = .int .i64 (prodL (l.take k))) (fun _ _ i => l.length - (intOf i).toNat)
  case atStart => exact ⟨0, Nat.zero_le _, rfl, rfl⟩
  case round =>
    obtain ⟨k, hk, rfl, rfl⟩ := hrel
    by_cases hlt : k < l.length
    · obtain ⟨b', off, rfl, hbB, hc⟩ := h (by omega)
      have g0 := hc k hlt
      have i0 : (0 : Int) ≤ (k : Int) := by omega
      have i1 : (k : Int) < (l.length : Int) := by omega
      have hst := prod_take l k hlt
      have hb := prod_bd l Hsm.out k hk
      obtain ⟨_, _⟩ := hb.num (by omega)
      obtain ⟨_, _⟩ := (hb.mul (Hsm.out.get k hlt)).num (by omega)
      have Hst := Lib.hid hst
      clear hst hc h hb
      generalize prodL (l.take k) = q at *
      generalize l.getD k 0 = x at *
      go_wp2
      go_round
      case rel => exact ⟨k + 1, by omega, by go_num, by rw [Hst.out]⟩
      case measure => simp [intOf]; omega
    · obtain rfl : k = l.length := by omega
      clear h
      go_wp2
      go_ret
      exact ⟨ret_int rfl, rfl⟩

theorem step_prod {ops : Array Oper} {o : Oper} {a : Act} {Q : Exit → Act → World → Prop} {K : Act → World → Prop} {E : Prop} (w : World) (hgd : o.guard = none) (x : Operand)
    (ho : o.op = .call { callee := .value (.func 50), args := #[x], argTypes := #[22] }) (A : Option Addr) (n c B : Nat) (l : List Int) (hx : a.eval x = .slice A n c) (hn : l.length = n) (h10 : n ≤ 10) (h : SlI w B A l) (hsm : Small l)
    (hK : K (a.put o.dst (.int .i64 (prodL l))) w) :
    if Region.wanted o (yielded ops a.tmps) = true then Oper.wp Try.prog o a w K Q else E := by
  have hw : Region.wanted o (yielded ops a.tmps) = true := by simp [Region.wanted, hgd]
  rw [if_pos hw]
  have hrun : (execOp a.eval o).run Try.prog w = .ok (.enter 50 #[.slice A n c]) w := by
    have h1 : (#[x].map a.eval) = #[.slice A n c] := by simp [hx]
    unfold execOp
    simp only [ho, resolve, invoke, h1, Sem.run_bind, Result.andThen_ok, Act.eval]
    go_simp
  unfold Oper.wp
  rw [hrun, Oper.upon_enter]
  refine (impl_product A n c B l w hn h hsm h10).mono fun e w' hh => ?_
  obtain ⟨rfl, rfl⟩ := hh
  exact hK

def is0 : Value → Bool
  | .slice _ n _ => n == 0
  | _ => false
theorem step_prod0 {ops : Array Oper} {o : Oper} {a : Act} {Q : Exit → Act → World → Prop} {K : Act → World → Prop} {E : Prop} (w : World) (hgd : o.guard = none) (x : Operand)
    (ho : o.op = .call { callee := .value (.func 50), args := #[x], argTypes := #[22] }) (hx : is0 (a.eval x) = true) (hK : K (a.put o.dst (.int .i64 1)) w) :
    if Region.wanted o (yielded ops a.tmps) = true then Oper.wp Try.prog o a w K Q else E := by
  have hv : ∃ A c, a.eval x = .slice A 0 c := by
    cases hv : a.eval x with
    | slice A n c =>
      rw [hv] at hx
      have : n = 0 := by simpa [is0] using hx
      subst this
      exact ⟨A, c, rfl⟩
    | _ => rw [hv] at hx; simp [is0] at hx
  obtain ⟨A, c, hv⟩ := hv
  exact step_prod w hgd x ho A 0 c 0 [] hv rfl (by omega) SlI.nil_ (fun x hx => by simp at hx) hK

/-- the closure's three boxes, from b0 on, and the parts told so far, in blocks behind them -/
def TS (w : World) (b0 : Nat) (Lv F : Value) (A' : Option Addr) (c' d : Nat) (L : List Int) : Prop :=
  w.ownsRow b0 22 1 (.slice (some ⟨b0 + 1, 0, none⟩) 1 1) 1 [.slice A' d c'] ∧ w.cell? ⟨b0, 0, none⟩ = some Lv ∧ w.cell? ⟨b0 + 2, 0, none⟩ = some F ∧ L.length = d ∧ w.ownsRow (b0 + 3) 3 1 (.slice A' d c') d (ics L) ∧ b0 + 3 ≤ w.heap.size
theorem TS.push {w W1 w7 : World} {b0 c' d c7 n7 : Nat} {Lv F : Value} {A' A7 : Option Addr} {L L7 : List Int} (h : TS w b0 Lv F A' c' d L) (hb : Below w.heap.size w W1) (hg : W1.grownBy w7 (Value.slice A' d c').ownBlock) (hl : L7.length = n7) (hnew : w7.ownsRow (b0 + 3) 3 1 (.slice A7 n7 c7) n7 (ics L7)) :
    (w7.cell? ⟨b0 + 1, 0, none⟩ = some (.slice A' d c') ∧ w7.frozen? ⟨b0 + 1, 0, none⟩ = false) ∧ TS (w7.setCell ⟨b0 + 1, 0, none⟩ (.slice A7 n7 c7)) b0 Lv F A7 c7 n7 L7 ∧ Below b0 w (w7.setCell ⟨b0 + 1, 0, none⟩ (.slice A7 n7 c7)) := by
  obtain ⟨h1, h2, h3, h4, h5, h6⟩ := h
  have o1 := own_kept h1 hb
  have o5 := own_kept h5 hb
  have hrow : ∀ k, (Value.slice A' d c').ownBlock = some k → b0 + 3 ≤ k := fun k hk => (h5.lt k hk).1
  have q1 := own_far o1 hg (fun k hk e => own_ne o5 o1 (by decide) k e.symm hk.symm)
  obtain ⟨s1, s2⟩ := World.ownsRow.stored q1 0 (.slice A7 n7 c7)
  have cell : ∀ g v, w.cell? ⟨g, 0, none⟩ = some v → g < b0 + 3 → g ≠ b0 + 1 → (w7.setCell ⟨b0 + 1, 0, none⟩ (.slice A7 n7 c7)).cell? ⟨g, 0, none⟩ = some v := fun g v hv h3 hne => by
    rw [World.cell?_setCell_other _ _ _ _ (by intro e; injection e with e; exact hne e.symm)]
    exact hg.cell (cell_kept hb hv) (fun e => by have := hrow g e.symm; omega)
  refine ⟨⟨by rw [q1.cellAt 0 (by omega)]; rfl, q1.frozenAt 0⟩, ⟨s1, cell _ _ h2 (by omega) (by omega), cell _ _ h3 (by omega) (by omega), hl, own_far hnew s2 (fun k hk e => own_ne hnew q1 (by decide) k hk e), Nat.le_trans h6 (Nat.le_trans hb.size (Nat.le_trans hg.size s2.size))⟩, ?_⟩
  have b1 : Below b0 w W1 := hb.mono (by omega)
  have b2 := b1.grown hg (Nat.le_trans (by omega) hb.size) (fun k hk => by have := hrow k hk; omega)
  exact b2.grown s2 (Nat.le_trans (by omega) (Nat.le_trans hb.size hg.size)) (fun k hk => by simp at hk; omega)

/-- behind a call of the closure -/
def TellEnd (w : World) (b0 : Nat) (Lv F : Value) (L : List Int) (e : Ending) (w' : World) : Prop := e = .returned (.tuple #[]) ∧ (∃ A2 c2 d2, TS w' b0 Lv F A2 c2 d2 L) ∧ Below b0 w w'

set_option maxRecDepth 100000 in
set_option maxHeartbeats 3200000 in
theorem impl_tell (A : Option Addr) (n c B b0 : Nat) (l : List Int) (hn : l.length = n) (n10 : n ≤ 10) (hlc : n ≤ c) (hsm : Small l) (hB : B ≤ b0) : ∀ (m k : Nat) (p : Int) (A' : Option Addr) (c' d : Nat) (L : List Int) (w : World), n ≤ k + m → k ≤ n → Bd k p → SlI w B A l → L.length + (tms (l.drop k) p).length ≤ 100000 → TS w b0 (.slice A n c) (.func (.func 49) #[] #[.pointer (some ⟨b0 + 1, 0, none⟩), .pointer (some ⟨b0, 0, none⟩), .pointer (some ⟨b0 + 2, 0, none⟩)]) A' c' d L →
    Calls Try.prog 49 #[.int .i64 p, .int .i64 k, .pointer (some ⟨b0 + 1, 0, none⟩), .pointer (some ⟨b0, 0, none⟩), .pointer (some ⟨b0 + 2, 0, none⟩)] w (TellEnd w b0 (.slice A n c) (.func (.func 49) #[] #[.pointer (some ⟨b0 + 1, 0, none⟩), .pointer (some ⟨b0, 0, none⟩), .pointer (some ⟨b0 + 2, 0, none⟩)]) (L ++ tms (l.drop k) p)) := by
  intro m
  induction m using Nat.strongRecOn with
  | _ m ih =>
  intro k p A' c' d L w hkm hkn hp h hlim hT
  have Hn := Lib.hid hn
  have Hsm := Lib.hid hsm
  have Hp := Lib.hid hp
  have H := Lib.hid h
  have Ih := Lib.hid ih
  have HT := Lib.hid hT
  have hc1 := hT.1.cellAt 0 (by omega)
  have g1 : w.cell? ⟨b0 + 1, 0, none⟩ = some (.slice A' d c') := hc1
  have g2 := hT.2.1
  have g3 := hT.2.2.1
  have hf1 := hT.1.frozenAt 0
  have hb3 := hT.2.2.2.2.2
  have k0 : (0 : Int) ≤ (k : Int) := by omega
  have k1 : (k : Int) ≤ (n : Int) := by omega
  have k2 : (n : Int) ≤ (c : Int) := by omega
  have hdl : (l.drop k).length = n - k := by rw [List.length_drop, hn]
  have hpq : Bd (k + (n - k)) (p * prodL (l.drop k)) := by
    have := hp.prod (small_drop_bd hsm k (n - k) (by omega))
    rwa [List.take_of_length_le (by omega)] at this
  have hpr : Bd (n - k) (prodL (l.drop k)) := by
    have := small_drop_bd hsm k (n - k) (by omega)
    rwa [List.take_of_length_le (by omega)] at this
  obtain ⟨p1, p2⟩ := hpq.num (by omega)
  obtain ⟨p3, p4⟩ := hpr.num (by omega)
  have hq : tms (l.drop k) p = [p * prodL (l.drop k)] ++ tmsL (l.drop k) p := rfl
  have Hq := Lib.hid hq
  have Hdl := Lib.hid hdl
  have Hlim := Lib.hid hlim
  have HLd := Lib.hid hT.2.2.2.1
  have d1 : d ≤ 1000000 := by have := hT.2.2.2.1; omega
  have hBw : Below w.heap.size w (w.alloc (.cells #[.int .i64 (p * prodL (l.drop k))] 3)).drew := ((Below.refl _ _).alloc (Nat.le_refl _) _).drew
  have hg1 : b0 + 1 < w.heap.size := by omega
  have hcA : (w.alloc (.cells #[.int .i64 (p * prodL (l.drop k))] 3)).drew.cell? ⟨b0 + 1, 0, none⟩ = some (.slice A' d c') := (hBw.cell (p := ⟨b0 + 1, 0, none⟩) hg1).trans g1
  have hcB : (w.alloc (.cells #[.int .i64 (p * prodL (l.drop k))] 3)).drew.cell? ⟨b0, 0, none⟩ = some (.slice A n c) := (hBw.cell (p := ⟨b0, 0, none⟩) (by show b0 < w.heap.size; omega)).trans g2
  have HOwn := Lib.hid (own_kept hT.2.2.2.2.1 hBw)
  have HSl : Hid (SlI (w.alloc (.cells #[.int .i64 (p * prodL (l.drop k))] 3)).drew (w.heap.size + 1) (some ⟨w.heap.size, 0, none⟩) [p * prodL (l.drop k)]) := Lib.hid (SlI.cell1 (World.cell?_alloc_new w _ _ 0) (by omega))
  have HBs : Hid (b0 + 3 ≤ (w.alloc (.cells #[.int .i64 (p * prodL (l.drop k))] 3)).drew.heap.size) := Lib.hid (Nat.le_trans hb3 hBw.size)
  have hL1 : (L ++ [p * prodL (l.drop k)]).length = d + 1 := by rw [List.length_append, hT.2.2.2.1]; rfl
  have HNext : Hid (∀ A7 c7 w7, w7.ownsRow (b0 + 3) 3 1 (.slice A7 (d + 1) c7) (d + 1) (ics (L ++ [p * prodL (l.drop k)])) → (w.alloc (.cells #[.int .i64 (p * prodL (l.drop k))] 3)).drew.grownBy w7 (Value.slice A' d c').ownBlock →
      (w7.cell? ⟨b0 + 1, 0, none⟩ = some (.slice A' d c') ∧ w7.frozen? ⟨b0 + 1, 0, none⟩ = false) ∧ TS (w7.setCell ⟨b0 + 1, 0, none⟩ (.slice A7 (d + 1) c7)) b0 (.slice A n c) (.func (.func 49) #[] #[.pointer (some ⟨b0 + 1, 0, none⟩), .pointer (some ⟨b0, 0, none⟩), .pointer (some ⟨b0 + 2, 0, none⟩)]) A7 c7 (d + 1) (L ++ [p * prodL (l.drop k)]) ∧ Below b0 w (w7.setCell ⟨b0 + 1, 0, none⟩ (.slice A7 (d + 1) c7))) := Lib.hid fun A7 c7 w7 o7 g7 => TS.push HT.out hBw g7 hL1 o7
  have hbb : b0 ≤ w.heap.size := by omega
  clear hn hsm hp h ih hT hc1 hdl hpq hpr hq hlim hBw hL1
  generalize hprod : prodL (l.drop k) = pr at *
  have hpw : IntKind.i64.wrap (p * pr) = p * pr := IntWalk.i64_in _ (by omega)
  have Hprod := Lib.hid hprod
  clear hprod
  rcases Nat.lt_or_ge k n with hlt | hge
  · obtain ⟨b, off, rfl, hbB, hc⟩ := H.out (by rw [Hn.out]; omega)
    have kc : ¬ c = k := by omega
    have Hd := Lib.hid (H.out.cutAt k)
    have nk : k ≤ n := by omega
    have nk10 : n - k ≤ 10 := by omega
    clear hc
    go_enter Try.func49, Try.ntmps49
    go_wp2
    go_region_law (first
      | (refine step_prod _ rfl (.tmp 12) rfl (some ⟨b, off + k, none⟩) (n - k) (c - k) B (l.drop k) (by simp [Act.eval, Act.put]) Hdl.out nk10 ?_ (Hsm.out.drop k) ?_
         · exact Hd.out
         rw [Hprod.out])
      | (refine step_appendNI ((w.alloc (.cells #[.int .i64 (p * pr)] 3)).drew) rfl (.tmp 8) (.tmp 15) rfl (b0 + 3) (.slice A' d c') d L HLd.out (by simp [Act.eval, Act.put]) HOwn.out (some ⟨w.heap.size, 0, none⟩) 1 1 [p * pr] (w.heap.size + 1) (d + 1) rfl (by simp [Act.eval, Act.put]) rfl HSl.out d1 (by decide) HBs.out ?_
         intro A7 c7 w7 o7 g7
         obtain ⟨⟨hc7, hf7⟩, hT7, hb7⟩ := HNext.out A7 c7 w7 o7 g7
         have HT7 := Lib.hid hT7
         have Hb7 := Lib.hid hb7
         clear hT7 hb7 o7 g7))
    all_goals
      clear hcA hcB hpw g1 g2 g3 hf1
      go_wp2
      go_loopw [0, 7] (fun pr i wr => ∃ (t d2 : Nat) (p' : Int) (L2 : List Int) (A2 : Option Addr) (c2 : Nat), k ≤ t ∧ t ≤ n ∧ i = .int .i64 t ∧ pr = .int .i64 p' ∧ Bd t p' ∧ L2 ++ tmsL (l.drop t) p' = L ++ tms (l.drop k) p ∧ TS wr b0 (.slice (some ⟨b, off, none⟩) n c) (.func (.func 49) #[] #[.pointer (some ⟨b0 + 1, 0, none⟩), .pointer (some ⟨b0, 0, none⟩), .pointer (some ⟨b0 + 2, 0, none⟩)]) A2 c2 d2 L2 ∧ Below b0 w wr) (fun _ i _ => n - (intOf i).toNat)
      case atStart => exact ⟨k, d + 1, p, _, A7, c7, Nat.le_refl _, hkn, rfl, rfl, Hp.out, by rw [Hq.out, List.append_assoc], HT7.out, Hb7.out⟩
      case round =>
        clear HT7 Hb7
        obtain ⟨t, d2, p', L2, A2, c2, hkt, htn, rfl, rfl, hbd, heq, hT2, hb2⟩ := hrel
        obtain ⟨w0, hw0⟩ : ∃ w0, w0 = wr := ⟨_, rfl⟩
        subst hw0
        have e2 := hT2.2.1
        have e3 := hT2.2.2.1
        by_cases hlt3 : t + 1 < n
        · have t0 : (0 : Int) ≤ (t : Int) := by omega
          have t1 : (t : Int) < (n : Int) := by omega
          have t2 : (t : Int) + 1 < (n : Int) := by omega
          have t3 : (t : Int) ≤ 10 := by omega
          have hl3 : t + 1 < l.length := by rw [Hn.out]; exact hlt3
          have hst := tmsL_step p' hl3
          have hs0 := H.out.below (hb2.mono hB)
          have heq2 : (L2 ++ tms (l.drop (t + 2)) (-p')) ++ tmsL (l.drop (t + 1)) (p' * l.getD t 0) = L ++ tms (l.drop k) p := by rw [List.append_assoc, ← hst]; exact heq
          have hlim2 : L2.length + (tms (l.drop (t + 2)) (-p')).length ≤ 100000 := by
            have h1 := congrArg List.length heq2
            have h2 := Hlim.out
            simp only [List.length_append] at h1
            omega
          have hcall := Ih.out (n - (t + 2)) (by omega) (t + 2) (-p') A2 c2 d2 L2 w0 (by omega) (by omega) (hbd.neg.mono (by omega)) hs0 hlim2 hT2
          have ec : ((t + 2 : Nat) : Int) = (t : Int) + 2 := by omega
          rw [ec] at hcall
          obtain ⟨pn1, pn2⟩ := hbd.num (by omega)
          have hx := Hsm.out.get t (by omega)
          have hbd2 := hbd.mul hx
          obtain ⟨pm1, pm2⟩ := hbd2.num (by omega)
          have Hcall := Lib.hid hcall
          have Heq2 := Lib.hid heq2
          have Hbd2 := Lib.hid hbd2
          have Hb2 := Lib.hid hb2
          have HT2s := Lib.hid hT2.2.2.2.2.2
          clear hst hcall ec hbd hbd2 heq heq2 hlim2 hb2 hl3 hx hT2 hs0
          generalize tms (l.drop (t + 2)) (-p') = T at *
          generalize hxx : l.getD t 0 = x at *
          have Hxx := Lib.hid hxx
          clear hxx
          go_wp2_with fail
          refine Hcall.out.mono ?_
          rintro e w2 ⟨rfl, ⟨A3, c3, d3, hT3⟩, b3⟩
          have hb3 : Below b0 w w2 := Hb2.out.trans b3
          have f2 := hT3.2.1
          have hs3 := H.out.below (hb3.mono hB)
          obtain ⟨b4, off4, he4, hbB4, hc4⟩ := hs3 (by rw [Hn.out]; omega)
          cases he4
          have g0 := hc4 t (by rw [Hn.out]; omega)
          rw [Hxx.out] at g0
          have HT3 := Lib.hid hT3
          have Hb3 := Lib.hid hb3
          clear hT3 hb3 b3 hs3 hc4 e2 e3
          go_wp2
          go_roundw
          case rel => exact ⟨t + 1, d3, p' * x, _, A3, c3, by omega, by omega, by go_num, rfl, Hbd2.out, Heq2.out, HT3.out, Hb3.out⟩
          case measure => simp [intOf]; omega
        · have hE : TellEnd w b0 (.slice (some ⟨b, off, none⟩) n c) (.func (.func 49) #[] #[.pointer (some ⟨b0 + 1, 0, none⟩), .pointer (some ⟨b0, 0, none⟩), .pointer (some ⟨b0 + 2, 0, none⟩)]) (L ++ tms (l.drop k) p) (.returned (.tuple #[])) w0 := by
            rw [tmsL_end p' (by rw [Hn.out]; omega), List.append_nil] at heq
            subst heq
            exact ⟨rfl, ⟨A2, c2, d2, hT2⟩, hb2⟩
          have HE := Lib.hid hE
          have t2 : ¬ (t : Int) + 1 < (n : Int) := by omega
          clear hE heq hT2 hb2 hbd
          go_wp2
          exact bodyPost_ret (v := .tuple #[]) (by simp [results, Try.results49, go_sem]) rfl HE.out
  · obtain rfl : k = n := by omega
    have hnil : l.drop k = [] := List.drop_of_length_le (by rw [Hn.out]; exact Nat.le_refl _)
    have hpr1 : pr = 1 := by rw [← Hprod.out, hnil]; rfl
    subst hpr1
    have hfull : L ++ tms (l.drop k) p = L ++ [p * 1] := by rw [Hq.out, hnil, tmsL_nil]; rfl
    rw [hfull]
    have Hnil := Lib.hid hnil
    have HP1 : Hid (prodL ([] : List Int) = 1) := Lib.hid rfl
    have k3 : ¬ (k : Int) + 1 < (k : Int) := by omega
    clear hnil hfull
    simp only [Int.mul_one] at *
    have hc1 : c = k ∨ ¬ c = k := by omega
    rcases hc1 with hc | hc
    · subst hc
      cases A with
      | none =>
        have hk0 : c = 0 := by
          rcases Nat.eq_zero_or_pos c with e | e
          · exact e
          · obtain ⟨b, off, he, _⟩ := H.out (by rw [Hn.out]; omega)
            cases he
        subst hk0
        go_enter Try.func49, Try.ntmps49
        go_wp2
        go_region_law (first
          | (refine step_prod0 _ rfl (.tmp 12) rfl (by simp [Act.eval, Act.put, is0]) ?_)
          | (refine step_appendNI ((w.alloc (.cells #[.int .i64 (p)] 3)).drew) rfl (.tmp 8) (.tmp 15) rfl (b0 + 3) (.slice A' d c') d L HLd.out (by simp [Act.eval, Act.put]) HOwn.out (some ⟨w.heap.size, 0, none⟩) 1 1 [p] (w.heap.size + 1) (d + 1) rfl (by simp [Act.eval, Act.put]) rfl HSl.out d1 (by decide) HBs.out ?_
             intro A7 c7 w7 o7 g7
             obtain ⟨⟨hc7, hf7⟩, hT7, hb7⟩ := HNext.out A7 c7 w7 o7 g7
             have hE : TellEnd w b0 _ _ (L ++ [p]) (.returned (.tuple #[])) _ := ⟨rfl, ⟨A7, c7, _, hT7⟩, hb7⟩
             have f2 := hT7.2.1
             have HE := Lib.hid hE
             clear hT7 hb7 o7 g7 hE))
        all_goals
          clear hcA hcB hpw g1 g2 g3 hf1
          go_wp2
          refine wp_loop_rounds 1 ?_
          rw [rounds_succ]
          go_wp2
          exact bodyPost_ret (v := .tuple #[]) (by simp [results, Try.results49, go_sem]) rfl HE.out
      | some ad =>
        go_enter Try.func49, Try.ntmps49
        go_wp2
        go_region_law (first
          | (refine step_prod0 _ rfl (.tmp 12) rfl (by simp [Act.eval, Act.put, is0]) ?_)
          | (refine step_appendNI ((w.alloc (.cells #[.int .i64 (p)] 3)).drew) rfl (.tmp 8) (.tmp 15) rfl (b0 + 3) (.slice A' d c') d L HLd.out (by simp [Act.eval, Act.put]) HOwn.out (some ⟨w.heap.size, 0, none⟩) 1 1 [p] (w.heap.size + 1) (d + 1) rfl (by simp [Act.eval, Act.put]) rfl HSl.out d1 (by decide) HBs.out ?_
             intro A7 c7 w7 o7 g7
             obtain ⟨⟨hc7, hf7⟩, hT7, hb7⟩ := HNext.out A7 c7 w7 o7 g7
             have hE : TellEnd w b0 _ _ (L ++ [p]) (.returned (.tuple #[])) _ := ⟨rfl, ⟨A7, c7, _, hT7⟩, hb7⟩
             have f2 := hT7.2.1
             have HE := Lib.hid hE
             clear hT7 hb7 o7 g7 hE))
        all_goals
          clear hcA hcB hpw g1 g2 g3 hf1
          go_wp2
          refine wp_loop_rounds 1 ?_
          rw [rounds_succ]
          go_wp2
          exact bodyPost_ret (v := .tuple #[]) (by simp [results, Try.results49, go_sem]) rfl HE.out
    · cases A with
      | none =>
        have hk0 : k = 0 := by
          rcases Nat.eq_zero_or_pos k with e | e
          · exact e
          · obtain ⟨b, off, he, _⟩ := H.out (by rw [Hn.out]; omega)
            cases he
        subst hk0
        go_enter Try.func49, Try.ntmps49
        go_wp2
        go_region_law (first
          | (refine step_prod0 _ rfl (.tmp 12) rfl (by simp [Act.eval, Act.put, is0]) ?_)
          | (refine step_appendNI ((w.alloc (.cells #[.int .i64 (p)] 3)).drew) rfl (.tmp 8) (.tmp 15) rfl (b0 + 3) (.slice A' d c') d L HLd.out (by simp [Act.eval, Act.put]) HOwn.out (some ⟨w.heap.size, 0, none⟩) 1 1 [p] (w.heap.size + 1) (d + 1) rfl (by simp [Act.eval, Act.put]) rfl HSl.out d1 (by decide) HBs.out ?_
             intro A7 c7 w7 o7 g7
             obtain ⟨⟨hc7, hf7⟩, hT7, hb7⟩ := HNext.out A7 c7 w7 o7 g7
             have hE : TellEnd w b0 _ _ (L ++ [p]) (.returned (.tuple #[])) _ := ⟨rfl, ⟨A7, c7, _, hT7⟩, hb7⟩
             have f2 := hT7.2.1
             have HE := Lib.hid hE
             clear hT7 hb7 o7 g7 hE))
        all_goals
          clear hcA hcB hpw g1 g2 g3 hf1
          go_wp2
          refine wp_loop_rounds 1 ?_
          rw [rounds_succ]
          go_wp2
          exact bodyPost_ret (v := .tuple #[]) (by simp [results, Try.results49, go_sem]) rfl HE.out
      | some ad =>
        go_enter Try.func49, Try.ntmps49
        go_wp2
        go_region_law (first
          | (refine step_prod0 _ rfl (.tmp 12) rfl (by simp [Act.eval, Act.put, is0]) ?_)
          | (refine step_appendNI ((w.alloc (.cells #[.int .i64 (p)] 3)).drew) rfl (.tmp 8) (.tmp 15) rfl (b0 + 3) (.slice A' d c') d L HLd.out (by simp [Act.eval, Act.put]) HOwn.out (some ⟨w.heap.size, 0, none⟩) 1 1 [p] (w.heap.size + 1) (d + 1) rfl (by simp [Act.eval, Act.put]) rfl HSl.out d1 (by decide) HBs.out ?_
             intro A7 c7 w7 o7 g7
             obtain ⟨⟨hc7, hf7⟩, hT7, hb7⟩ := HNext.out A7 c7 w7 o7 g7
             have hE : TellEnd w b0 _ _ (L ++ [p]) (.returned (.tuple #[])) _ := ⟨rfl, ⟨A7, c7, _, hT7⟩, hb7⟩
             have f2 := hT7.2.1
             have HE := Lib.hid hE
             clear hT7 hb7 o7 g7 hE))
        all_goals
          clear hcA hcB hpw g1 g2 g3 hf1
          go_wp2
          refine wp_loop_rounds 1 ?_
          rw [rounds_succ]
          go_wp2
          exact bodyPost_ret (v := .tuple #[]) (by simp [results, Try.results49, go_sem]) rfl HE.out
end Go.Proofs.Ytkekjcfhkecggab
