/- All triangulations: the model's. -/
import Derived.Test.YtbpaaoeefcebeabAltM
import Derived.Test.YtbpaaoeefcebeabDDB
import Derived.Test.YtbpaaoeefcebeabDiag
import Derived.Test.YtbpaaoeefcebeabTurnPolygonW
import Derived.Test.YtbpaaoeefcebeabAppS
import Derived.Deep.RegionLaw
namespace Go.Proofs.Ytbpaaoeefcebeab
set_option linter.unusedVariables false
open Go.RowKit

/-- what a call keeps of rows of diagonals, wherever they lie -/
def Fr (w w' : World) : Prop := w.heap.size ≤ w'.heap.size ∧ ∀ (bb n : Nat) (v : Value) (xs : List Value), w.ownsRow bb 65 2 v n xs → w'.ownsRow bb 65 2 v n xs
theorem Fr.refl (w : World) : Fr w w := ⟨Nat.le_refl _, fun _ _ _ _ h => h⟩
theorem Fr.trans {w w' w'' : World} (h : Fr w w') (h' : Fr w' w'') : Fr w w'' := ⟨Nat.le_trans h.1 h'.1, fun bb n v xs ho => h'.2 bb n v xs (h.2 bb n v xs ho)⟩
theorem Fr.of_below {w w' : World} (h : Below w.heap.size w w') : Fr w w' := ⟨h.size, fun _ _ _ _ ho => own_kept ho h⟩
theorem Fr.alloc {w w' : World} (h : Fr w w') (o : Obj) : Fr w (w'.alloc o) := h.trans (Fr.of_below ((Below.refl _ _).alloc (Nat.le_refl _) o))
theorem Fr.grown {w w' : World} {base e n : Nat} {v : Value} {xs : List Value} (hg : w.grownBy w' v.ownBlock) (ho : w.ownsRow base e 1 v n xs) (hne : 65 ≠ e) : Fr w w' :=
  ⟨hg.size, fun _ _ _ _ h => own_far h hg (fun k hk e => own_ne h ho hne k hk e)⟩
/-- the list told so far, in its box -/
def Told (w : World) (base g : Nat) (L : List (List (Int × Int))) : Prop :=
  ∃ A c rs, w.ownsRow base 37 1 (.slice (some ⟨g, 0, none⟩) 1 1) 1 [.slice A L.length c] ∧ OwnDD w base A c rs L
theorem Told.kept {w w' : World} {base g : Nat} {L : List (List (Int × Int))} (h : Told w base g L) (hb : Below w.heap.size w w') : Told w' base g L := by
  obtain ⟨A, c, rs, h1, h2⟩ := h
  exact ⟨A, c, rs, own_kept h1 hb, h2.kept hb⟩
def LookE (w : World) (base g : Nat) (L : List (List (Int × Int))) (e : Ending) (w' : World) : Prop :=
  e = .returned (.tuple #[]) ∧ Told w' base g L ∧ Below base w w' ∧ Fr w w'

/-- rows kept where a new row is written -/
theorem Fr.new {w1 w' w5 : World} {row : Option Nat} (h : Fr w1 w') (hg : w'.grownBy w5 row) (hr : ∀ k, row = some k → w1.heap.size ≤ k) : Fr w1 w5 :=
  ⟨Nat.le_trans h.1 hg.size, fun bb n v xs ho => own_far (h.2 bb n v xs ho) hg (fun k hk e => by
    have h1 := (ho.lt k hk).2
    have h2 := hr k e.symm
    omega)⟩
theorem Fr.drew {w w' : World} (h : Fr w w') : Fr w w'.drew := h
theorem own_oneDD2 (w : World) (v : Value) : (w.alloc (.cells #[v] 26)).ownsRow w.heap.size 26 1 (.slice (some ⟨w.heap.size, 0, none⟩) 1 1) 1 [v] := ⟨rfl, .inr ⟨w.heap.size, 1, #[v], rfl, Nat.le_refl _, heap_alloc_new w _, Nat.le_refl _, by decide, rfl, rfl⟩⟩
theorem own_oneD (w : World) (u v : Int) : (w.alloc (.cells #[.int .i64 u, .int .i64 v] 65)).ownsRow w.heap.size 65 2 (.slice (some ⟨w.heap.size, 0, none⟩) 1 1) 1 (dcs [(u, v)]) := ⟨rfl, .inr ⟨w.heap.size, 1, #[.int .i64 u, .int .i64 v], rfl, Nat.le_refl _, heap_alloc_new w _, Nat.le_refl _, by decide, rfl, rfl⟩⟩
theorem step_look {ops : Array Oper} {o : Oper} {a : Act} {Q : Exit → Act → World → Prop} {K : Act → World → Prop} {E : Prop} (w : World) (hgd : o.guard = none) (x0 x1 x2 x3 : Operand)
    (ho : o.op = .call { callee := .value (.func 96), args := #[x0, x1, x2, x3], argTypes := #[3, 26, 26, 88] }) (v0 v1 v2 v3 : Value) (h0 : a.eval x0 = v0) (h1 : a.eval x1 = v1) (h2 : a.eval x2 = v2) (h3 : a.eval x3 = v3)
    (base g : Nat) (R : List (List (Int × Int))) (hc : Calls Try.prog 96 #[v0, v1, v2, v3] w (LookE w base g R))
    (hK : ∀ w', Told w' base g R → Below base w w' → Fr w w' → K (a.put o.dst (.tuple #[])) w') :
    if Region.wanted o (yielded ops a.tmps) = true then Oper.wp Try.prog o a w K Q else E := by
  have hw : Region.wanted o (yielded ops a.tmps) = true := by simp [Region.wanted, hgd]
  rw [if_pos hw]
  have hrun : (execOp a.eval o).run Try.prog w = .ok (.enter 96 #[v0, v1, v2, v3]) w := by
    have h1 : (#[x0, x1, x2, x3].map a.eval) = #[v0, v1, v2, v3] := by simp [h0, h1, h2, h3]
    unfold execOp
    simp only [ho, resolve, invoke, h1, Sem.run_bind, Result.andThen_ok, Act.eval]
    go_simp
  unfold Oper.wp
  rw [hrun, Oper.upon_enter]
  refine hc.mono fun e w' hh => ?_
  obtain ⟨rfl, h4, h5, h6⟩ := hh
  exact hK w' h4 h5 h6
theorem box2a (w : World) (u v : Int) : ((w.alloc (.cells #[] 65)).alloc (.cells #[.int .i64 u, .int .i64 v] 65)).drew.cell? ⟨w.heap.size + 1, 0, none⟩ = some (.int .i64 u) := by simp [go_sem]
theorem box2b (w : World) (u v : Int) : ((w.alloc (.cells #[] 65)).alloc (.cells #[.int .i64 u, .int .i64 v] 65)).drew.cell? ⟨w.heap.size + 1, 1, none⟩ = some (.int .i64 v) := by simp [go_sem]
theorem box3a (w : World) (u v : Int) : ((w.alloc (.cells #[.int .i64 u, .int .i64 v] 65)).alloc (.cells #[] 65)).drew.cell? ⟨w.heap.size, 0, none⟩ = some (.int .i64 u) := by simp [go_sem]
theorem box3b (w : World) (u v : Int) : ((w.alloc (.cells #[.int .i64 u, .int .i64 v] 65)).alloc (.cells #[] 65)).drew.cell? ⟨w.heap.size, 1, none⟩ = some (.int .i64 v) := by simp [go_sem]
/-- a list told more -/
theorem look_end {w w5 w7 : World} {base g lb c5 c0 c7 : Nat} {A0 A5 A7 : Option Addr} {rs0 : List Value} {Ls : List (List (Int × Int))} {b : List (Int × Int)}
    (hbox : w.ownsRow base 37 1 (.slice (some ⟨g, 0, none⟩) 1 1) 1 [.slice A0 Ls.length c0]) (hO : OwnDD w base A0 c0 rs0 Ls) (hb5 : Below w.heap.size w w5)
    (own5 : w5.ownsRow w.heap.size 65 2 (.slice A5 lb c5) lb (dcs b)) (hlb : b.length = lb) (hbase : base ≤ w.heap.size)
    (own7 : w7.ownsRow base 26 1 (.slice A7 (Ls.length + 1) c7) (Ls.length + 1) (rs0 ++ [.slice A5 lb c5])) (hg7 : (w5.alloc (.cells #[.slice A5 lb c5] 26)).grownBy w7 (Value.slice A0 Ls.length c0).ownBlock) :
    (w7.cell? ⟨g, 0, none⟩ = some (.slice A0 Ls.length c0) ∧ w7.frozen? ⟨g, 0, none⟩ = false) ∧ LookE w base g (Ls ++ [b]) (.returned (.tuple #[])) (w7.setCell ⟨g, 0, none⟩ (.slice A7 (Ls.length + 1) c7)) := by
  have O5 := hO.kept hb5
  have X5 := own_kept hbox hb5
  have X7 := own_far (X5.alloc (.cells #[.slice A5 lb c5] 26)) hg7 (own_ne X5 O5.2.1 (by decide))
  have O7 : OwnDD w7 base A7 c7 (rs0 ++ [.slice A5 lb c5]) (Ls ++ [b]) :=
    OwnDD.app (b := w.heap.size) (w2 := w5) (o := .cells #[.slice A5 lb c5] 26) O5 hO.blk (by rw [hlb]; exact own5.mono hbase) (fun k hk => (own5.lt k hk).1) own7 hg7
  obtain ⟨X8, G8⟩ := X7.stored 0 (.slice A7 (Ls.length + 1) c7)
  have hl : (Ls ++ [b]).length = Ls.length + 1 := by simp
  have B7 : Below base w w7 := below_grown ((hb5.mono hbase).alloc (Nat.le_trans hbase hb5.size) (.cells #[.slice A5 lb c5] 26)) hg7 hbase (fun k hk => (O5.2.1.lt k hk).1)
  have F7 : Fr w w7 := ((Fr.of_below hb5).alloc (.cells #[.slice A5 lb c5] 26)).trans (Fr.grown hg7 (O5.2.1.alloc _) (by decide))
  refine ⟨⟨X7.cellAt 0 (by omega), X7.frozenAt 0⟩, rfl, ⟨A7, c7, _, by rw [hl]; exact X8, O7.1, own_far O7.2.1 G8 (own_ne O7.2.1 X7 (by decide)), fun j hj => own_far (O7.2.2.1 j hj) G8 (own_ne (O7.2.2.1 j hj) X7 (by decide)), O7.2.2.2⟩, ?_, ?_⟩
  · exact below_grown B7 G8 hbase (fun k hk => (X7.lt k hk).1)
  · exact F7.trans (Fr.grown (v := .slice (some ⟨g, 0, none⟩) 1 1) G8 X7 (by decide))

set_option maxRecDepth 100000 in
set_option maxHeartbeats 6400000 in
theorem spec_poLook (m n : Nat) (hm : m + 3 = n) (hn : n ≤ 12) : ∀ (q : Nat) (r b : List (Int × Int)) (Ab : Option Addr) (cb lb : Nat) (Ar : Option Addr) (cr B base g bb : Nat) (Ls : List (List (Int × Int))) (w : World), r.length = q → b.length = lb → lb ≤ m →
    SlD w B Ar r → B ≤ base → w.ownsRow bb 65 2 (.slice Ab lb cb) lb (dcs b) → base ≤ w.heap.size → Told w base g Ls → (Ls ++ comp m r b).length ≤ 1000 → q ≤ 100 → q ≤ cr →
    Calls Try.prog 96 #[.int .i64 n, .slice Ar q cr, .slice Ab lb cb, .pointer (some ⟨g, 0, none⟩)] w (LookE w base g (Ls ++ comp m r b)) := by
  intro q
  induction q using Nat.strongRecOn with
  | _ q ih =>
  intro r b Ab cb lb Ar cr B base g bb Ls w hr hb hlm hsl hB hown hbase htold hlen hq hqc
  have IH := Lib.hid ih
  have Hr := Lib.hid hr
  have Hb := Lib.hid hb
  have Hsl := Lib.hid hsl
  have Hown := Lib.hid hown
  have HT := Lib.hid htold
  have hBw : B ≤ w.heap.size := Nat.le_trans hB hbase
  have Hs := Lib.hid (show SlD w w.heap.size Ab b from SlD.of_own hown)
  clear ih hr hb hsl hown htold
  by_cases hlb : lb = m
  · have hc : comp m r b = [b] := by unfold comp; rw [if_pos (Hb.out.trans hlb)]
    have hx : (lb : Int) = (n : Int) - 3 := by omega
    rw [hc] at hlen ⊢
    obtain ⟨A0, c0, rs0, hbox, hO⟩ := HT.out
    have hLl : Ls.length ≤ 1000 := by simp at hlen; omega
    have c0' := hbox.cellAt 0 (by omega)
    have hgw : g < w.heap.size := (hbox.lt g rfl).2
    have c0h : w.cell? ⟨g, 0, none⟩ = some (.slice A0 Ls.length c0) := c0'
    have HoA : Hid ((w.alloc (.cells #[] 65)).drew.ownsRow w.heap.size 65 2 (.slice (some ⟨w.heap.size, 0, none⟩) 0 0) 0 (dcs [])) := Lib.hid ((own_made w (Nat.le_refl _)).drew)
    have HbA : Hid (Below w.heap.size w (w.alloc (.cells #[] 65)).drew) := Lib.hid (((Below.refl _ _).alloc (Nat.le_refl _) _).drew)
    have HsA : Hid (SlD (w.alloc (.cells #[] 65)).drew w.heap.size Ab b) := Lib.hid (Hs.out.below HbA.out)
    have Hbox := Lib.hid hbox
    have HO := Lib.hid hO
    have hx2 : ((lb : Int) == (n : Int) - 3) = true := by rw [beq_iff_eq]; exact hx
    have hlb9 : lb ≤ 1000000 := by omega
    have hLl2 : Ls.length ≤ 1000000 := by omega
    clear hbox hO hc hlen c0' IH hlb hlm hx hm HT
    go_enter Try.func96, Try.ntmps96
    go_wp2
    go_region_law (first
      | (refine step_appendN ((w.alloc (.cells #[] 65)).drew) rfl (.tmp 22) (.tmp 23) rfl w.heap.size (.slice (some ⟨w.heap.size, 0, none⟩) 0 0) 0 [] rfl (by simp [Act.eval, Act.put]) HoA.out Ab lb cb b w.heap.size lb (by omega) (by simp [Act.eval, Act.put]) Hb.out HsA.out (by decide) hlb9 HbA.out.size ?_
         intro A5 c5 w5 own5 hg5
         rw [List.nil_append] at own5
         have hb5 := below_grown HbA.out hg5 (Nat.le_refl _) (above_blk (Nat.le_refl _))
         have Hb5 := Lib.hid hb5
         have hc5 : w5.cell? ⟨g, 0, none⟩ = some (.slice A0 Ls.length c0) := cell_kept hb5 c0h
         have hz5 : g < w5.heap.size := Nat.lt_of_lt_of_le hgw hb5.size
         have HOw5 := Lib.hid ((HO.out.kept hb5).2.1.alloc (.cells #[.slice A5 lb c5] 26))
         have Hba5 := Lib.hid (show base ≤ (w5.alloc (.cells #[.slice A5 lb c5] 26)).heap.size from Nat.le_trans (Nat.le_trans hbase hb5.size) (by simp))
         have Own5 := Lib.hid own5
         clear hb5 hg5 own5)
      | (refine step_appendDD (w5.alloc (.cells #[.slice A5 lb c5] 26)) rfl (.tmp 21) (.tmp 25) rfl base (.slice A0 Ls.length c0) Ls.length rs0 (by simp [Act.eval, Act.put]) HOw5.out w5.heap.size (some ⟨w5.heap.size, 0, none⟩) 1 1 [.slice A5 lb c5] (by simp [Act.eval, Act.put]) (own_oneDD2 w5 _) (by intro u hu; simp at hu; subst hu; rfl) hLl2 (by decide) Hba5.out ?_
         intro A7 c7 w7 own7 hg7
         obtain ⟨⟨hc7, hf7⟩, hE7⟩ := look_end Hbox.out HO.out Hb5.out Own5.out Hb.out hbase own7 hg7
         have HE7 := Lib.hid hE7
         clear hE7 own7 hg7))
    all_goals
      have HE := HE7
      go_wp2
      exact bodyPost_ret (v := .tuple #[]) (by simp [results, Try.results96, go_sem]) rfl HE.out
  · have hx : ((lb : Int) == (n : Int) - 3) = false := by rw [beq_eq_false_iff_ne]; omega
    have hc : comp m r b = compL m r b := by unfold comp; rw [if_neg (by rw [Hb.out]; exact hlb)]
    rw [hc] at hlen ⊢
    obtain ⟨R, hR⟩ : ∃ R, Ls ++ compL m r b = R := ⟨_, rfl⟩
    rw [hR] at hlen ⊢
    have HR := Lib.hid hR
    have Hlen := Lib.hid hlen
    clear hc hR hlen
    go_enter Try.func96, Try.ntmps96
    go_wp2
    go_loopw [8, 9, 10, 12, 30] (fun _ _ _ _ i wr => ∃ (k : Nat) (L : List (List (Int × Int))), k ≤ q ∧ i = .int .i64 k ∧ L ++ compL m (r.drop k) b = R ∧ Told wr base g L ∧ Below base w wr ∧ Fr w wr) (fun _ _ _ _ i _ => q - (intOf i).toNat)
    case atStart => exact ⟨0, Ls, Nat.zero_le _, rfl, by rw [List.drop_zero]; exact HR.out, HT.out, Below.refl _ _, Fr.refl _⟩
    case round =>
      obtain ⟨k, L, hk, rfl, hL, ht, hbl, hfr⟩ := hrel
      have hsz := hfr.1
      by_cases hlt : k < q
      · have hkr : k < r.length := by rw [Hr.out]; exact hlt
        obtain ⟨b0, off, rfl, hbB, hc⟩ := Hsl.out.below (hbl.mono hB) (by have := Hr.out; omega)
        obtain ⟨g0, g1⟩ := hc k hkr
        have i0 : (0 : Int) ≤ (k : Int) := by omega
        have i1 : (k : Int) < (q : Int) := by omega
        have hmiss := fun h => compL_miss (m := m) (r := r) (b := b) hkr h
        have hhit := fun h => compL_hit (m := m) (r := r) (b := b) hkr h
        generalize hd : r.getD k (0, 0) = d at *
        obtain ⟨u, v⟩ := d
        dsimp only at g0 g1
        have Hmiss := Lib.hid hmiss
        have Hhit := Lib.hid hhit
        have HL := Lib.hid hL
        obtain ⟨wo, hwo⟩ : ∃ wo : World, wo = wr := ⟨_, rfl⟩
        subst hwo
        obtain ⟨w0, hw0⟩ : ∃ w0, w0 = wo.alloc (.cells #[.int .i64 u, .int .i64 v] 65) := ⟨_, rfl⟩
        have z0w : wo.heap.size < w0.heap.size := by rw [hw0]; simp
        have q0w : w0.cell? ⟨wo.heap.size, 0, none⟩ = some (.int .i64 u) := by rw [hw0]; exact World.cell?_alloc_new wo _ _ 0
        have q1w : w0.cell? ⟨wo.heap.size, 1, none⟩ = some (.int .i64 v) := by rw [hw0]; exact World.cell?_alloc_new wo _ _ 1
        have hA : Below wo.heap.size wo w0 := by rw [hw0]; exact (Below.refl _ _).alloc (Nat.le_refl _) _
        have Ht0 := Lib.hid (ht.kept hA)
        have Hl0 := Lib.hid (below_kept hbl hbase hA)
        have Hf0 := Lib.hid (hfr.trans (Fr.of_below hA))
        have Hs0 := Lib.hid (show SlD w0 w0.heap.size Ab b from SlD.of_own (Hf0.out.2 _ _ _ _ Hown.out))
        have hbw0 : base ≤ w0.heap.size := Nat.le_trans hbase Hf0.out.1
        clear hmiss hhit hd hL hc ht hbl hfr hA
        go_wp2
        rw [← hw0]
        go_loopw [10, 12, 37] (fun f _ i wr => ∃ (j : Nat) (fb : Bool), j ≤ lb ∧ i = .int .i64 j ∧ f = .bool fb ∧ fb = (!anyCross (u, v) (b.take j)) ∧ Below w0.heap.size w0 wr) (fun _ _ i _ => lb - (intOf i).toNat)
        case atStart => exact ⟨0, true, Nat.zero_le _, rfl, rfl, rfl, Below.refl _ _⟩
        case round =>
          obtain ⟨j, fb, hj, rfl, rfl, hfb, hbj⟩ := hrel
          have hszj := hbj.size
          by_cases hjl : j < lb
          · obtain ⟨b2, off2, rfl, hb2B, hc2⟩ := Hs0.out.below hbj (by have := Hb.out; omega)
            obtain ⟨s0, s1⟩ := hc2 j (by rw [Hb.out]; exact hjl)
            have hst := anyCross_take (u, v) b j (by rw [Hb.out]; exact hjl)
            have j0 : (0 : Int) ≤ (j : Int) := by omega
            have j1 : (j : Int) < (lb : Int) := by omega
            generalize b.getD j (0, 0) = e at *
            obtain ⟨x, y⟩ := e
            dsimp only at s0 s1 hst
            have p0 := cell_kept hbj q0w
            have p1 := cell_kept hbj q1w
            have zj : wo.heap.size < wr.heap.size := by omega
            have zb : b2 < wr.heap.size := by omega
            have Hst := Lib.hid hst
            have Hfb := Lib.hid hfb
            have Hbj := Lib.hid (hbj.alloc hszj (.cells #[.int .i64 x, .int .i64 y] 65))
            clear hc2 hst hfb hbj
            cases fb
            · have hE : false = !anyCross (u, v) (b.take (j + 1)) := by
                have := Hfb.out
                rw [Hst.out]
                cases h : anyCross (u, v) (b.take j)
                · rw [h] at this; simp at this
                · rfl
              have HE := Lib.hid hE
              clear hE
              go_wp2
              go_roundw
              case rel => exact ⟨j + 1, false, by omega, by go_num, rfl, HE.out, Hbj.out⟩
              case measure => simp [intOf]; omega
            · have hno : anyCross (u, v) (b.take j) = false := by
                have := Hfb.out
                cases h : anyCross (u, v) (b.take j)
                · rfl
                · rw [h] at this; simp at this
              go_wp2_with fail
              refine (spec_poCross u v x y _).mono ?_
              rintro e w3 ⟨rfl, b3⟩
              have HB3 := Lib.hid (below_kept Hbj.out (Nat.le_refl _) b3)
              clear b3
              cases hcr : crB u v x y
              · have HE := Lib.hid (show true = !anyCross (u, v) (b.take (j + 1)) by rw [Hst.out, hno, hcr]; rfl)
                go_wp2
                go_roundw
                case rel => exact ⟨j + 1, true, by omega, by go_num, rfl, HE.out, HB3.out⟩
                case measure => simp [intOf]; omega
              · have HE := Lib.hid (show false = !anyCross (u, v) (b.take (j + 1)) by rw [Hst.out, hno, hcr]; rfl)
                go_wp2
                go_roundw
                case rel => exact ⟨j + 1, false, by omega, by go_num, rfl, HE.out, HB3.out⟩
                case measure => simp [intOf]; omega
          obtain rfl : j = lb := by omega
          rw [List.take_of_length_le (by rw [Hb.out]; exact Nat.le_refl _)] at hfb
          have Ht1 := Lib.hid (Ht0.out.kept hbj)
          have Hl1 := Lib.hid (below_kept Hl0.out hbase hbj)
          have Hf1 := Lib.hid (Hf0.out.trans (Fr.of_below hbj))
          cases fb
          · have hx : anyCross (u, v) b = true := by
              cases h : anyCross (u, v) b
              · rw [h] at hfb; simp at hfb
              · rfl
            have hR2 : L ++ compL m (r.drop (k + 1)) b = R := by
              rw [← Hmiss.out hx]
              exact HL.out
            have HRR := Lib.hid hR2
            clear hR2 hfb hbj hx
            go_wp2
            go_roundw
            case rel => exact ⟨k + 1, L, by omega, by go_num, HRR.out, Ht1.out, Hl1.out, Hf1.out⟩
            case measure => simp [intOf]; omega
          have hx : anyCross (u, v) b = false := by
            cases h : anyCross (u, v) b
            · rfl
            · rw [h] at hfb; simp at hfb
          have hLq := Hhit.out hx
          have hlc : (L ++ comp m (r.drop (k + 1)) (b ++ [(u, v)])).length ≤ 1000 := by
            have h1 := congrArg List.length HL.out
            have h2 := Hlen.out
            rw [hLq] at h1
            simp only [List.length_append] at h1 ⊢
            omega
          have hR2 : (L ++ comp m (r.drop (k + 1)) (b ++ [(u, v)])) ++ compL m (r.drop (k + 1)) b = R := by
            rw [List.append_assoc, ← hLq]
            exact HL.out
          have HRR := Lib.hid hR2
          have Hlc := Lib.hid hlc
          have k0 : (0 : Int) ≤ (k : Int) + 1 := by omega
          have k1 : (k : Int) + 1 ≤ (q : Int) := by omega
          have k2 : (k : Int) + 1 ≤ (cr : Int) := by omega
          have hcq : k + 1 ≤ q := hlt
          have hwk : IntKind.i64.wrap ((k : Int) + 1) = (k : Int) + 1 := IntWalk.i64_in _ (by omega)
          have hnk : ((k : Int) + 1).toNat = k + 1 := by omega
          have hdr : (r.drop (k + 1)).length = q - (k + 1) := by rw [List.length_drop, Hr.out]
          have Hdr := Lib.hid hdr
          have q0 := cell_kept hbj q0w
          have q1 := cell_kept hbj q1w
          have z0 : wo.heap.size < wr.heap.size := by omega
          have hbw1 : base ≤ wr.heap.size := by omega
          have hBw1 : B ≤ wr.heap.size := by omega
          have hlb9 : j ≤ 1000000 := by omega
          have hadd : off + (k + 1) * 2 = off + k * 2 + 2 := by omega
          have Hsb := Lib.hid (show SlD wr wr.heap.size Ab b from SlD.of_own (Hf1.out.2 _ _ _ _ Hown.out))
          have hsl1 := Hsl.out.below (Hl1.out.mono hB)
          have Hsl1 := Lib.hid hsl1
          have hbl : (b ++ [(u, v)]).length = j + 1 := by rw [List.length_append, Hb.out]; rfl
          have hjm : j + 1 ≤ m := by omega
          have hih : ∀ (A6 : Option Addr) (c6 : Nat) (w6 : World), w6.ownsRow wr.heap.size 65 2 (.slice A6 (j + 1) c6) (j + 1) (dcs (b ++ [(u, v)])) → Below wr.heap.size wr w6 → ∀ (Ar : Option Addr) (q' cr' : Nat), q' = q - (k + 1) → cr' = cr - (k + 1) → SlD wr B Ar (r.drop (k + 1)) →
              Calls Try.prog 96 #[.int .i64 n, .slice Ar q' cr', .slice A6 (j + 1) c6, .pointer (some ⟨g, 0, none⟩)] w6 (LookE w6 base g (L ++ comp m (r.drop (k + 1)) (b ++ [(u, v)]))) := fun A6 c6 w6 own6 hb6 Ar q' cr' e1 e2 hs =>
            IH.out q' (by omega) (r.drop (k + 1)) (b ++ [(u, v)]) A6 c6 (j + 1) Ar cr' B base g wr.heap.size L w6 (by rw [Hdr.out, e1]) hbl hjm (hs.below (hb6.mono hBw1)) hB own6 (Nat.le_trans hbw1 hb6.size) (Ht1.out.kept hb6) Hlc.out (by omega) (by omega)
          have Hih := Lib.hid hih
          clear hih hLq hlc hR2 hfb hbj hx hdr hsl1 hbl hjm Ht0 Hl0 Hf0 Hs0 q0w q1w z0w hw0 hszj hbw0
          by_cases hcc : cr = k + 1
          · subst hcc
            have hnil : r.drop (k + 1) = [] := List.eq_nil_of_length_eq_zero (by rw [Hdr.out]; omega)
            have hsn : SlD wr B (some ⟨b0, off, none⟩) (r.drop (k + 1)) := by rw [hnil]; exact SlD.nil_
            have Hsn := Lib.hid hsn
            clear hnil hsn
            have HB1 : Hid (Below wr.heap.size wr (wr.alloc (.cells #[] 65)).drew) := Lib.hid (((Below.refl _ _).alloc (Nat.le_refl _) _).drew)
            have HB2 : Hid (Below wr.heap.size wr ((wr.alloc (.cells #[] 65)).alloc (.cells #[.int .i64 u, .int .i64 v] 65)).drew) := Lib.hid ((((Below.refl _ _).alloc (Nat.le_refl _) _).alloc (by simp) _).drew)
            have HB3 : Hid (Below wr.heap.size wr ((wr.alloc (.cells #[.int .i64 u, .int .i64 v] 65)).alloc (.cells #[] 65)).drew) := Lib.hid ((((Below.refl _ _).alloc (Nat.le_refl _) _).alloc (by simp) _).drew)
            have HO1 : Hid ((wr.alloc (.cells #[] 65)).drew.ownsRow wr.heap.size 65 2 (.slice (some ⟨wr.heap.size, 0, none⟩) 0 0) 0 (dcs [])) := Lib.hid ((own_made wr (Nat.le_refl _)).drew)
            have HO2 : Hid (((wr.alloc (.cells #[] 65)).alloc (.cells #[.int .i64 u, .int .i64 v] 65)).drew.ownsRow wr.heap.size 65 2 (.slice (some ⟨wr.heap.size, 0, none⟩) 0 0) 0 (dcs [])) := Lib.hid (((own_made wr (Nat.le_refl _)).alloc _).drew)
            have HO3 : Hid (((wr.alloc (.cells #[.int .i64 u, .int .i64 v] 65)).alloc (.cells #[] 65)).drew.ownsRow wr.heap.size 65 2 (.slice (some ⟨wr.heap.size + 1, 0, none⟩) 0 0) 0 (dcs [])) := Lib.hid (by
              have h5 := own_made (wr.alloc (.cells #[.int .i64 u, .int .i64 v] 65)) (B := wr.heap.size) (by simp)
              simp only [World.size_alloc] at h5
              exact h5.drew)
            go_wp2
            go_region_law (first
              | (refine step_appendN ((wr.alloc (.cells #[] 65)).drew) rfl (.tmp 55) (.tmp 56) rfl wr.heap.size (.slice (some ⟨wr.heap.size, 0, none⟩) 0 0) 0 [] rfl (by simp [Act.eval, Act.put]) HO1.out Ab j cb b wr.heap.size j (by omega) (by simp [Act.eval, Act.put]) Hb.out (Hsb.out.below HB1.out) (by decide) hlb9 HB1.out.size ?_
                 intro A5 c5 w5 own5 hg5
                 rw [List.nil_append] at own5
                 have hb5 := below_grown HB1.out hg5 (Nat.le_refl _) (above_blk (by simp))
                 have q0' := cell_kept hb5 q0
                 have q1' := cell_kept hb5 q1
                 have z0' : wo.heap.size < w5.heap.size := Nat.lt_of_lt_of_le z0 hb5.size
                 have Hb5 := Lib.hid hb5
                 have Own5 := Lib.hid own5
                 clear hb5 hg5 own5)
              | (refine step_appendN (((wr.alloc (.cells #[] 65)).alloc (.cells #[.int .i64 u, .int .i64 v] 65)).drew) rfl (.tmp 55) (.tmp 56) rfl wr.heap.size (.slice (some ⟨wr.heap.size, 0, none⟩) 0 0) 0 [] rfl (by simp [Act.eval, Act.put]) HO2.out Ab j cb b wr.heap.size j (by omega) (by simp [Act.eval, Act.put]) Hb.out (Hsb.out.below HB2.out) (by decide) hlb9 HB2.out.size ?_
                 intro A5 c5 w5 own5 hg5
                 rw [List.nil_append] at own5
                 have hb5 := below_grown HB2.out hg5 (Nat.le_refl _) (above_blk (by simp))
                 have q0' := cell_kept hb5 q0
                 have q1' := cell_kept hb5 q1
                 have z0' : wo.heap.size < w5.heap.size := Nat.lt_of_lt_of_le z0 hb5.size
                 have c20 := hg5.cell (box2a wr u v) (by simp [Value.ownBlock])
                 have c21 := hg5.cell (box2b wr u v) (by simp [Value.ownBlock])
                 have Sb5 := Lib.hid (SlD.one (B := wr.heap.size + 1 + 1) c20 c21 (Nat.lt_succ_self _))
                 clear c20 c21
                 have Hb5 := Lib.hid hb5
                 have Own5 := Lib.hid own5
                 clear hb5 hg5 own5)
              | (refine step_appendN (((wr.alloc (.cells #[.int .i64 u, .int .i64 v] 65)).alloc (.cells #[] 65)).drew) rfl (.tmp 55) (.tmp 56) rfl wr.heap.size (.slice (some ⟨wr.heap.size + 1, 0, none⟩) 0 0) 0 [] rfl (by simp [Act.eval, Act.put]) HO3.out Ab j cb b wr.heap.size j (by omega) (by simp [Act.eval, Act.put]) Hb.out (Hsb.out.below HB3.out) (by decide) hlb9 HB3.out.size ?_
                 intro A5 c5 w5 own5 hg5
                 rw [List.nil_append] at own5
                 have hb5 := below_grown HB3.out hg5 (Nat.le_refl _) (above_blk (by simp))
                 have q0' := cell_kept hb5 q0
                 have q1' := cell_kept hb5 q1
                 have z0' : wo.heap.size < w5.heap.size := Nat.lt_of_lt_of_le z0 hb5.size
                 have c20 := hg5.cell (box3a wr u v) (by simp [Value.ownBlock])
                 have c21 := hg5.cell (box3b wr u v) (by simp [Value.ownBlock])
                 have Sb5 := Lib.hid (SlD.one (B := wr.heap.size + 1) c20 c21 (Nat.lt_succ_self _))
                 clear c20 c21
                 have Hb5 := Lib.hid hb5
                 have Own5 := Lib.hid own5
                 clear hb5 hg5 own5)
              | (refine step_appendN (w5.alloc (.cells #[.int .i64 u, .int .i64 v] 65)) rfl (.tmp 57) (.tmp 59) rfl wr.heap.size (.slice A5 j c5) j b Hb.out (by simp [Act.eval, Act.put]) (Own5.out.alloc _) (some ⟨w5.heap.size, 0, none⟩) 1 1 [(u, v)] (w5.heap.size + 1) (j + 1) rfl (by simp [Act.eval, Act.put]) rfl (SlD.one (World.cell?_alloc_new w5 _ _ 0) (World.cell?_alloc_new w5 _ _ 1) (Nat.lt_succ_self _)) hlb9 (by decide) (Nat.le_trans Hb5.out.size (by simp)) ?_
                 intro A6 c6 w6 own6 hg6
                 have hb6 := below_grown (Hb5.out.alloc Hb5.out.size _) hg6 (Nat.le_refl _) (fun k hk => (Own5.out.lt k hk).1)
                 have Hb6 := Lib.hid hb6
                 have Hcall := Lib.hid (Hih.out A6 c6 w6 own6 hb6)
                 have q0' := cell_kept hb6 q0
                 have q1' := cell_kept hb6 q1
                 have z0' : wo.heap.size < w6.heap.size := Nat.lt_of_lt_of_le z0 hb6.size
                 clear hb6 hg6 own6)
              | (refine step_appendN (w5) rfl (.tmp 57) (.tmp 59) rfl wr.heap.size (.slice A5 j c5) j b Hb.out (by simp [Act.eval, Act.put]) Own5.out (some ⟨wr.heap.size + 1, 0, none⟩) 1 1 [(u, v)] (wr.heap.size + 1 + 1) (j + 1) rfl (by simp [Act.eval, Act.put]) rfl Sb5.out hlb9 (by decide) Hb5.out.size ?_
                 intro A6 c6 w6 own6 hg6
                 have hb6 := below_grown Hb5.out hg6 (Nat.le_refl _) (fun k hk => (Own5.out.lt k hk).1)
                 have Hb6 := Lib.hid hb6
                 have Hcall := Lib.hid (Hih.out A6 c6 w6 own6 hb6)
                 have q0' := cell_kept hb6 q0
                 have q1' := cell_kept hb6 q1
                 have z0' : wo.heap.size < w6.heap.size := Nat.lt_of_lt_of_le z0 hb6.size
                 clear hb6 hg6 own6)
              | (refine step_appendN (w5) rfl (.tmp 57) (.tmp 59) rfl wr.heap.size (.slice A5 j c5) j b Hb.out (by simp [Act.eval, Act.put]) Own5.out (some ⟨wr.heap.size, 0, none⟩) 1 1 [(u, v)] (wr.heap.size + 1) (j + 1) rfl (by simp [Act.eval, Act.put]) rfl Sb5.out hlb9 (by decide) Hb5.out.size ?_
                 intro A6 c6 w6 own6 hg6
                 have hb6 := below_grown Hb5.out hg6 (Nat.le_refl _) (fun k hk => (Own5.out.lt k hk).1)
                 have Hb6 := Lib.hid hb6
                 have Hcall := Lib.hid (Hih.out A6 c6 w6 own6 hb6)
                 have q0' := cell_kept hb6 q0
                 have q1' := cell_kept hb6 q1
                 have z0' : wo.heap.size < w6.heap.size := Nat.lt_of_lt_of_le z0 hb6.size
                 clear hb6 hg6 own6)
              | (refine step_look w6 rfl (.tmp 50) (.tmp 54) (.tmp 60) (.tmp 61) rfl _ _ _ _ (by simp [Act.eval, Act.put]) (by simp [Act.eval, Act.put]) (by simp [Act.eval, Act.put]) (by simp [Act.eval, Act.put]) base g _ (Hcall.out (some ⟨b0, off, none⟩) 0 0 (by omega) (by omega) Hsn.out) ?_
                 intro w8 ht8 hl8 hf8
                 have Ht8 := Lib.hid ht8
                 have Hl8 := Lib.hid hl8
                 have Hf8 := Lib.hid hf8
                 clear ht8 hl8 hf8))
            all_goals
              have hlE : Below base w w8 := (Hl1.out.trans (Hb6.out.mono hbw1)).trans Hl8.out
              have hfE : Fr w w8 := (Hf1.out.trans (Fr.of_below Hb6.out)).trans Hf8.out
              have HlE := Lib.hid hlE
              have HfE := Lib.hid hfE
              clear hlE hfE
              go_wp2
              go_roundw
              case rel => exact ⟨k + 1, _, by omega, by go_num, HRR.out, Ht8.out, HlE.out, HfE.out⟩
              case measure => simp [intOf]; omega
          · have hsn : SlD wr B (some ⟨b0, off + k * 2 + 2, none⟩) (r.drop (k + 1)) := by rw [← hadd]; exact Hsl1.out.drop (k + 1)
            have Hsn := Lib.hid hsn
            clear hsn
            have HB1 : Hid (Below wr.heap.size wr (wr.alloc (.cells #[] 65)).drew) := Lib.hid (((Below.refl _ _).alloc (Nat.le_refl _) _).drew)
            have HB2 : Hid (Below wr.heap.size wr ((wr.alloc (.cells #[] 65)).alloc (.cells #[.int .i64 u, .int .i64 v] 65)).drew) := Lib.hid ((((Below.refl _ _).alloc (Nat.le_refl _) _).alloc (by simp) _).drew)
            have HB3 : Hid (Below wr.heap.size wr ((wr.alloc (.cells #[.int .i64 u, .int .i64 v] 65)).alloc (.cells #[] 65)).drew) := Lib.hid ((((Below.refl _ _).alloc (Nat.le_refl _) _).alloc (by simp) _).drew)
            have HO1 : Hid ((wr.alloc (.cells #[] 65)).drew.ownsRow wr.heap.size 65 2 (.slice (some ⟨wr.heap.size, 0, none⟩) 0 0) 0 (dcs [])) := Lib.hid ((own_made wr (Nat.le_refl _)).drew)
            have HO2 : Hid (((wr.alloc (.cells #[] 65)).alloc (.cells #[.int .i64 u, .int .i64 v] 65)).drew.ownsRow wr.heap.size 65 2 (.slice (some ⟨wr.heap.size, 0, none⟩) 0 0) 0 (dcs [])) := Lib.hid (((own_made wr (Nat.le_refl _)).alloc _).drew)
            have HO3 : Hid (((wr.alloc (.cells #[.int .i64 u, .int .i64 v] 65)).alloc (.cells #[] 65)).drew.ownsRow wr.heap.size 65 2 (.slice (some ⟨wr.heap.size + 1, 0, none⟩) 0 0) 0 (dcs [])) := Lib.hid (by
              have h5 := own_made (wr.alloc (.cells #[.int .i64 u, .int .i64 v] 65)) (B := wr.heap.size) (by simp)
              simp only [World.size_alloc] at h5
              exact h5.drew)
            go_wp2
            go_region_law (first
              | (refine step_appendN ((wr.alloc (.cells #[] 65)).drew) rfl (.tmp 55) (.tmp 56) rfl wr.heap.size (.slice (some ⟨wr.heap.size, 0, none⟩) 0 0) 0 [] rfl (by simp [Act.eval, Act.put]) HO1.out Ab j cb b wr.heap.size j (by omega) (by simp [Act.eval, Act.put]) Hb.out (Hsb.out.below HB1.out) (by decide) hlb9 HB1.out.size ?_
                 intro A5 c5 w5 own5 hg5
                 rw [List.nil_append] at own5
                 have hb5 := below_grown HB1.out hg5 (Nat.le_refl _) (above_blk (by simp))
                 have q0' := cell_kept hb5 q0
                 have q1' := cell_kept hb5 q1
                 have z0' : wo.heap.size < w5.heap.size := Nat.lt_of_lt_of_le z0 hb5.size
                 have Hb5 := Lib.hid hb5
                 have Own5 := Lib.hid own5
                 clear hb5 hg5 own5)
              | (refine step_appendN (((wr.alloc (.cells #[] 65)).alloc (.cells #[.int .i64 u, .int .i64 v] 65)).drew) rfl (.tmp 55) (.tmp 56) rfl wr.heap.size (.slice (some ⟨wr.heap.size, 0, none⟩) 0 0) 0 [] rfl (by simp [Act.eval, Act.put]) HO2.out Ab j cb b wr.heap.size j (by omega) (by simp [Act.eval, Act.put]) Hb.out (Hsb.out.below HB2.out) (by decide) hlb9 HB2.out.size ?_
                 intro A5 c5 w5 own5 hg5
                 rw [List.nil_append] at own5
                 have hb5 := below_grown HB2.out hg5 (Nat.le_refl _) (above_blk (by simp))
                 have q0' := cell_kept hb5 q0
                 have q1' := cell_kept hb5 q1
                 have z0' : wo.heap.size < w5.heap.size := Nat.lt_of_lt_of_le z0 hb5.size
                 have c20 := hg5.cell (box2a wr u v) (by simp [Value.ownBlock])
                 have c21 := hg5.cell (box2b wr u v) (by simp [Value.ownBlock])
                 have Sb5 := Lib.hid (SlD.one (B := wr.heap.size + 1 + 1) c20 c21 (Nat.lt_succ_self _))
                 clear c20 c21
                 have Hb5 := Lib.hid hb5
                 have Own5 := Lib.hid own5
                 clear hb5 hg5 own5)
              | (refine step_appendN (((wr.alloc (.cells #[.int .i64 u, .int .i64 v] 65)).alloc (.cells #[] 65)).drew) rfl (.tmp 55) (.tmp 56) rfl wr.heap.size (.slice (some ⟨wr.heap.size + 1, 0, none⟩) 0 0) 0 [] rfl (by simp [Act.eval, Act.put]) HO3.out Ab j cb b wr.heap.size j (by omega) (by simp [Act.eval, Act.put]) Hb.out (Hsb.out.below HB3.out) (by decide) hlb9 HB3.out.size ?_
                 intro A5 c5 w5 own5 hg5
                 rw [List.nil_append] at own5
                 have hb5 := below_grown HB3.out hg5 (Nat.le_refl _) (above_blk (by simp))
                 have q0' := cell_kept hb5 q0
                 have q1' := cell_kept hb5 q1
                 have z0' : wo.heap.size < w5.heap.size := Nat.lt_of_lt_of_le z0 hb5.size
                 have c20 := hg5.cell (box3a wr u v) (by simp [Value.ownBlock])
                 have c21 := hg5.cell (box3b wr u v) (by simp [Value.ownBlock])
                 have Sb5 := Lib.hid (SlD.one (B := wr.heap.size + 1) c20 c21 (Nat.lt_succ_self _))
                 clear c20 c21
                 have Hb5 := Lib.hid hb5
                 have Own5 := Lib.hid own5
                 clear hb5 hg5 own5)
              | (refine step_appendN (w5.alloc (.cells #[.int .i64 u, .int .i64 v] 65)) rfl (.tmp 57) (.tmp 59) rfl wr.heap.size (.slice A5 j c5) j b Hb.out (by simp [Act.eval, Act.put]) (Own5.out.alloc _) (some ⟨w5.heap.size, 0, none⟩) 1 1 [(u, v)] (w5.heap.size + 1) (j + 1) rfl (by simp [Act.eval, Act.put]) rfl (SlD.one (World.cell?_alloc_new w5 _ _ 0) (World.cell?_alloc_new w5 _ _ 1) (Nat.lt_succ_self _)) hlb9 (by decide) (Nat.le_trans Hb5.out.size (by simp)) ?_
                 intro A6 c6 w6 own6 hg6
                 have hb6 := below_grown (Hb5.out.alloc Hb5.out.size _) hg6 (Nat.le_refl _) (fun k hk => (Own5.out.lt k hk).1)
                 have Hb6 := Lib.hid hb6
                 have Hcall := Lib.hid (Hih.out A6 c6 w6 own6 hb6)
                 have q0' := cell_kept hb6 q0
                 have q1' := cell_kept hb6 q1
                 have z0' : wo.heap.size < w6.heap.size := Nat.lt_of_lt_of_le z0 hb6.size
                 clear hb6 hg6 own6)
              | (refine step_appendN (w5) rfl (.tmp 57) (.tmp 59) rfl wr.heap.size (.slice A5 j c5) j b Hb.out (by simp [Act.eval, Act.put]) Own5.out (some ⟨wr.heap.size + 1, 0, none⟩) 1 1 [(u, v)] (wr.heap.size + 1 + 1) (j + 1) rfl (by simp [Act.eval, Act.put]) rfl Sb5.out hlb9 (by decide) Hb5.out.size ?_
                 intro A6 c6 w6 own6 hg6
                 have hb6 := below_grown Hb5.out hg6 (Nat.le_refl _) (fun k hk => (Own5.out.lt k hk).1)
                 have Hb6 := Lib.hid hb6
                 have Hcall := Lib.hid (Hih.out A6 c6 w6 own6 hb6)
                 have q0' := cell_kept hb6 q0
                 have q1' := cell_kept hb6 q1
                 have z0' : wo.heap.size < w6.heap.size := Nat.lt_of_lt_of_le z0 hb6.size
                 clear hb6 hg6 own6)
              | (refine step_appendN (w5) rfl (.tmp 57) (.tmp 59) rfl wr.heap.size (.slice A5 j c5) j b Hb.out (by simp [Act.eval, Act.put]) Own5.out (some ⟨wr.heap.size, 0, none⟩) 1 1 [(u, v)] (wr.heap.size + 1) (j + 1) rfl (by simp [Act.eval, Act.put]) rfl Sb5.out hlb9 (by decide) Hb5.out.size ?_
                 intro A6 c6 w6 own6 hg6
                 have hb6 := below_grown Hb5.out hg6 (Nat.le_refl _) (fun k hk => (Own5.out.lt k hk).1)
                 have Hb6 := Lib.hid hb6
                 have Hcall := Lib.hid (Hih.out A6 c6 w6 own6 hb6)
                 have q0' := cell_kept hb6 q0
                 have q1' := cell_kept hb6 q1
                 have z0' : wo.heap.size < w6.heap.size := Nat.lt_of_lt_of_le z0 hb6.size
                 clear hb6 hg6 own6)
              | (refine step_look w6 rfl (.tmp 50) (.tmp 54) (.tmp 60) (.tmp 61) rfl _ _ _ _ (by simp [Act.eval, Act.put]) (by simp [Act.eval, Act.put]) (by simp [Act.eval, Act.put]) (by simp [Act.eval, Act.put]) base g _ (Hcall.out (some ⟨b0, off + k * 2 + 2, none⟩) (q - (k + 1)) (cr - (k + 1)) (by omega) (by omega) Hsn.out) ?_
                 intro w8 ht8 hl8 hf8
                 have Ht8 := Lib.hid ht8
                 have Hl8 := Lib.hid hl8
                 have Hf8 := Lib.hid hf8
                 clear ht8 hl8 hf8))
            all_goals
              have hlE : Below base w w8 := (Hl1.out.trans (Hb6.out.mono hbw1)).trans Hl8.out
              have hfE : Fr w w8 := (Hf1.out.trans (Fr.of_below Hb6.out)).trans Hf8.out
              have HlE := Lib.hid hlE
              have HfE := Lib.hid hfE
              clear hlE hfE
              go_wp2
              go_roundw
              case rel => exact ⟨k + 1, _, by omega, by go_num, HRR.out, Ht8.out, HlE.out, HfE.out⟩
              case measure => simp [intOf]; omega
      · obtain rfl : k = q := by omega
        have hE : L = R := by
          have := hL
          rw [← Hr.out, compL_end, List.append_nil] at this
          exact this
        have hE2 : LookE w base g R (.returned (.tuple #[])) wr := by
          rw [← hE]
          exact ⟨rfl, ht, hbl, hfr⟩
        have HE := Lib.hid hE2
        clear hE2 hE ht hbl hfr hL
        go_wp2
        exact bodyPost_ret (v := .tuple #[]) (by simp [results, Try.results96, go_sem]) rfl HE.out
end Go.Proofs.Ytbpaaoeefcebeab
