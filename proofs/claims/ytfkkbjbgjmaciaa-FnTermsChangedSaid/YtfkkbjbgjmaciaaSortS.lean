/- The model's poSorted: insertion into a list in order. -/
import Derived.Test.YtfkkbjbgjmaciaaAppS
import Derived.Test.YtfkkbjbgjmaciaaSortM
import Derived.Test.YtfkkbjbgjmaciaaLess
namespace Go.Proofs.Ytfkkbjbgjmaciaa
set_option linter.unusedVariables false
open Go.RowKit

/-- how many of a list come before x, from the front on -/
def insK (x : Int × Int) : List (Int × Int) → Nat
  | [] => 0
  | y :: r => if ltB y.1 y.2 x.1 x.2 = true then insK x r + 1 else 0
theorem insK_le (x : Int × Int) (l : List (Int × Int)) : insK x l ≤ l.length := by
  induction l with
  | nil => simp [insK]
  | cons y r ih => unfold insK; split <;> simp <;> omega
theorem ins_eq (x : Int × Int) (l : List (Int × Int)) : ins x l = l.take (insK x l) ++ [x] ++ l.drop (insK x l) := by
  induction l with
  | nil => rfl
  | cons y r ih =>
    unfold ins insK
    cases h : ltB y.1 y.2 x.1 x.2
    · simp
    · simp [ih]
theorem insK_step (x : Int × Int) (l : List (Int × Int)) : ∀ k, k < l.length → k ≤ insK x l → (ltB (l.getD k (0, 0)).1 (l.getD k (0, 0)).2 x.1 x.2 = true → k + 1 ≤ insK x l) ∧ (ltB (l.getD k (0, 0)).1 (l.getD k (0, 0)).2 x.1 x.2 = false → insK x l = k) := by
  induction l with
  | nil => intro k h; simp at h
  | cons y r ih =>
    intro k hk hle
    cases k with
    | zero =>
      simp only [List.getD_cons_zero]
      unfold insK
      constructor
      · intro h; simp [h]
      · intro h; simp [h]
    | succ k =>
      simp only [List.getD_cons_succ]
      unfold insK at hle ⊢
      cases h : ltB y.1 y.2 x.1 x.2
      · simp [h] at hle
      · simp only [h, if_true] at hle ⊢
        have := ih k (by simpa using hk) (by omega)
        constructor
        · intro h2; have := this.1 h2; omega
        · intro h2; have := this.2 h2; omega
theorem sortD_take (l : List (Int × Int)) (k : Nat) (h : k < l.length) : sortD (l.take (k + 1)) = ins (l.getD k (0, 0)) (sortD (l.take k)) := by
  unfold sortD
  rw [List.take_succ_eq_append_getElem h, List.foldl_append]
  simp [h]

theorem size2 {w1 w : World} {p0 p1 : Addr} {v0 v1 : Value} (h : w.cell? p0 = some v0 ∧ w.cell? p1 = some v1 ∧ Below w1.heap.size w1 w) : w1.heap.size ≤ w.heap.size := h.2.2.size

set_option maxRecDepth 100000 in
set_option maxHeartbeats 3200000 in
theorem spec_poSorted (A : Option Addr) (c B : Nat) (l : List (Int × Int)) (w : World) (h : SlD w B A l) (hB : B ≤ w.heap.size) (hl : l.length ≤ 1000) :
    Calls Try.prog 186 #[.slice A l.length c] w (GivD w (sortD l)) := by
  go_enter Try.func186, Try.ntmps186
  go_wp2
  go_loopw [3, 5, 6, 7, 10] (fun v _ _ _ i wr => ∃ (k : Nat) (A' : Option Addr) (c' : Nat), k ≤ l.length ∧ i = .int .i64 k ∧ v = .slice A' (sortD (l.take k)).length c' ∧ wr.ownsRow w.heap.size 161 2 (.slice A' (sortD (l.take k)).length c') (sortD (l.take k)).length (dcs (sortD (l.take k))) ∧ Below w.heap.size w wr) (fun _ _ _ _ i _ => l.length - (intOf i).toNat)
  case atStart => exact ⟨0, none, 0, Nat.zero_le _, rfl, rfl, World.ownsRow_nil _ _ _ _, Below.refl _ _⟩
  case round =>
    obtain ⟨k, A', c', hk, rfl, rfl, ho, hb⟩ := hrel
    by_cases hlt : k < l.length
    · obtain ⟨b, off, rfl, hbB, hc⟩ := h.below (hb.mono hB) (by omega)
      obtain ⟨g0, g1⟩ := hc k hlt
      have i0 : (0 : Int) ≤ (k : Int) := by omega
      have i1 : (k : Int) < (l.length : Int) := by omega
      have hst := sortD_take l k hlt
      have hsl : (sortD (l.take k)).length ≤ 1000 := by rw [sortD_length]; simp; omega
      generalize hx : l.getD k (0, 0) = x at *
      generalize hL : sortD (l.take k) = L at *
      obtain ⟨x0, x1⟩ := x
      dsimp only at g0 g1
      have Hst := Lib.hid hst
      clear hc hst hx hL
      go_wp2
      obtain ⟨wo, rfl⟩ : ∃ wo : World, wo = wr := ⟨_, rfl⟩
      have ho1 := ho.alloc (.cells #[.int .i64 x0, .int .i64 x1] 161)
      have hb1 := hb.alloc hb.size (.cells #[.int .i64 x0, .int .i64 x1] 161)
      have q0 : (wo.alloc (.cells #[.int .i64 x0, .int .i64 x1] 161)).cell? ⟨wo.heap.size, 0, none⟩ = some (.int .i64 x0) := by simp [go_sem]
      have q1 : (wo.alloc (.cells #[.int .i64 x0, .int .i64 x1] 161)).cell? ⟨wo.heap.size, 1, none⟩ = some (.int .i64 x1) := by simp [go_sem]
      go_loopw [6] (fun j wr => ∃ j' : Nat, j' ≤ L.length ∧ j = .int .i64 j' ∧ j' ≤ insK (x0, x1) L ∧ Below (wo.alloc (.cells #[.int .i64 x0, .int .i64 x1] 161)).heap.size (wo.alloc (.cells #[.int .i64 x0, .int .i64 x1] 161)) wr) (fun j _ => L.length - (intOf j).toNat)
      case atStart => exact ⟨0, Nat.zero_le _, rfl, Nat.zero_le _, Below.refl _ _⟩
      case round =>
        obtain ⟨j, hj, rfl, hjk, hbi⟩ := hrel
        have hbw := below_kept hb1 (Nat.le_refl _) hbi
        have how := own_kept ho1 hbi
        have q2 := cell_kept hbi q0
        have q3 := cell_kept hbi q1
        have hsz : wo.heap.size + 1 ≤ wr.heap.size := by have := hbi.size; simpa using this
        clear ho hb hb1 ho1 q0 q1 g0 g1
        have Hle := Lib.hid (insK_le (x0, x1) L)
        have hm0 : (0 : Int) ≤ (j : Int) := by omega
        by_cases hjl : j < L.length
        · obtain ⟨b2, off2, rfl, _, hc2⟩ := SlD.of_own how (by omega)
          obtain ⟨s0, s1⟩ := hc2 j hjl
          have hstep := insK_step (x0, x1) L j hjl hjk
          generalize L.getD j (0, 0) = y at *
          obtain ⟨y0, y1⟩ := y
          dsimp only at s0 s1 hstep
          have Hstep := Lib.hid hstep
          have hm1 : (j : Int) < (L.length : Int) := by omega
          clear hc2 hstep
          go_wp2
          go_region_held3 (fun w' => w'.cell? ⟨wo.heap.size, 0, none⟩ = some (.int .i64 x0) ∧ w'.cell? ⟨wo.heap.size, 1, none⟩ = some (.int .i64 x1) ∧
              w'.cell? ⟨b2, off2 + j * 2, none⟩ = some (.int .i64 y0) ∧ w'.cell? ⟨b2, off2 + j * 2 + 1, none⟩ = some (.int .i64 y1) ∧ Below wr.heap.size wr w')
            (first
              | exact kept4 (by assumption) hb1 (Nat.le_refl _)
              | exact ⟨q2, q3, s0, s1, (Below.refl _ _).drew⟩)
            (first
              | (go_at_call 195; refine (spec_poLess _ _ _ _ _).mono ?_; rintro e w1 ⟨rfl, hb1⟩))
          rename_i hS
          have hd := hS.2.2.2.2
          replace q2 := hS.1
          replace q3 := hS.2.1
          replace hbw := below_kept hbw (Nat.le_refl _) hd
          replace how := own_kept how hd
          replace hbi := below_kept hbi (Nat.le_refl _) hd
          have hsz2 : wo.heap.size + 1 ≤ w1.heap.size := Nat.le_trans hsz hd.size
          clear hS hb1 hd s0 s1
          cases hz : ltB y0 y1 x0 x1
          · replace hjk := (Hstep.out).2 hz
            clear Hstep hz
            -- behind the loop: the pair is put in at place j
            have hins : insK (x0, x1) L = j := hjk
            have hnew : sortD (l.take (k + 1)) = L.take j ++ [(x0, x1)] ++ L.drop j := by rw [Hst.out, ins_eq, hins]
            have Hnew := Lib.hid hnew
            have htl : (L.take j).length = j := by simp; omega
            have Htl := Lib.hid htl
            have hsd := (SlD.of_own how)
            have Hsd := Lib.hid hsd
            have hj0 : (0 : Int) ≤ (j : Int) := by omega
            have hj1 : (j : Int) ≤ (L.length : Int) := by omega
            have hcap := own_cap how
            have hj2 : (j : Int) ≤ (c' : Int) := by omega
            clear hnew hins htl hsd hjk
            go_wp2
            go_region_held3 (fun w' => w'.cell? ⟨wo.heap.size, 0, none⟩ = some (.int .i64 x0) ∧ w'.cell? ⟨wo.heap.size, 1, none⟩ = some (.int .i64 x1) ∧ Below w1.heap.size w1 w')
              (first
                | exact reheld q2 q3 (by assumption) hg6 (fun k hk => (own5.lt k hk).1)
                | exact reheld q2 q3 (by assumption) hg5 (above_blk (by simp))
                | exact kept2 (by assumption) ((Below.refl _ _).alloc (Nat.le_refl _) _) (Nat.le_refl _)
                | exact ⟨q2, q3, (Below.refl _ _).drew⟩)
              (first
                | (refine step_appendN _ rfl _ _ rfl w1.heap.size (.slice (some ⟨w1.heap.size, 0, none⟩) 0 0) 0 [] rfl rfl ?_ _ j c' (L.take j) w1.heap.size j ?_ rfl Htl.out ?_ ?_ ?_ ?_ ?_
                   · (first | exact (own_made w1 (Nat.le_refl _)).drew | exact ((own_made w1 (Nat.le_refl _)).alloc _).drew)
                   · omega
                   · exact sld2 Hsd.out (Nat.le_refl _) j (by assumption)
                   · omega
                   · omega
                   · simp <;> omega
                   intro A2 c2 w5 own5 hg5)
                | (refine step_appendN _ rfl _ _ rfl w1.heap.size (.slice (some ⟨w1.heap.size + 1, 0, none⟩) 0 0) 0 [] rfl rfl ?_ _ j c' (L.take j) w1.heap.size j ?_ rfl Htl.out ?_ ?_ ?_ ?_ ?_
                   · (have h5 := own_made (w1.alloc (.cells #[.int .i64 x0, .int .i64 x1] 161)) (B := w1.heap.size) (by simp); simp only [World.size_alloc] at h5; exact h5.drew)
                   · omega
                   · exact sld2 Hsd.out (Nat.le_refl _) j (by assumption)
                   · omega
                   · omega
                   · simp <;> omega
                   intro A2 c2 w5 own5 hg5)
                | (refine step_appendN _ rfl _ _ rfl w1.heap.size (.slice A2 j c2) j ([] ++ L.take j) ?_ rfl ?_ (some ⟨w5.heap.size, 0, none⟩) 1 1 [(x0, x1)] (w5.heap.size + 1) (j + 1) rfl rfl rfl ?_ ?_ ?_ ?_ ?_
                   · simpa using Htl.out
                   · exact own5.alloc _
                   · exact SlD.one (by simp [go_sem]) (by simp [go_sem]) (Nat.lt_succ_self _)
                   · omega
                   · omega
                   · exact size2 (by assumption)
                   intro A3 c3 w6 own6 hg6)
                | (refine step_appendN _ rfl _ _ rfl w1.heap.size (.slice A2 j c2) j ([] ++ L.take j) ?_ rfl ?_ (some ⟨w1.heap.size + 1, 0, none⟩) 1 1 [(x0, x1)] (w1.heap.size + 1 + 1) (j + 1) rfl rfl rfl ?_ ?_ ?_ ?_ ?_
                   · simpa using Htl.out
                   · exact own5
                   · exact SlD.one (hg5.cell (by simp [go_sem]) (by simp [Value.ownBlock])) (hg5.cell (by simp [go_sem]) (by simp [Value.ownBlock])) (Nat.lt_succ_self _)
                   · omega
                   · omega
                   · exact size2 (by assumption)
                   intro A3 c3 w6 own6 hg6)
                | (refine step_appendN _ rfl _ _ rfl w1.heap.size (.slice A2 j c2) j ([] ++ L.take j) ?_ rfl ?_ (some ⟨w1.heap.size, 0, none⟩) 1 1 [(x0, x1)] (w1.heap.size + 1) (j + 1) rfl rfl rfl ?_ ?_ ?_ ?_ ?_
                   · simpa using Htl.out
                   · exact own5
                   · exact SlD.one (hg5.cell (by simp [go_sem]) (by simp [Value.ownBlock])) (hg5.cell (by simp [go_sem]) (by simp [Value.ownBlock])) (Nat.lt_succ_self _)
                   · omega
                   · omega
                   · exact size2 (by assumption)
                   intro A3 c3 w6 own6 hg6))
            all_goals
              rename_i hT
              have hd6 := hT.2.2
              rw [List.nil_append] at own6
              have hl6 : (L.take j ++ [(x0, x1)]).length = j + 1 := by rw [List.length_append, Htl.out]; rfl
              have hsd6 := (Hsd.out.below hd6)
              have hdl : (L.drop j).length = L.length - j := by simp
              have hfull : Hid (∀ A7 c7 w7, w7.ownsRow w1.heap.size 161 2 (.slice A7 (L.length + 1) c7) (L.length + 1) (dcs (L.take j ++ [(x0, x1)] ++ L.drop j)) → w6.grownBy w7 (Value.slice A3 (j + 1) c3).ownBlock →
                  (sortD (l.take (k + 1))).length = L.length + 1 ∧ w7.ownsRow w.heap.size 161 2 (.slice A7 (L.length + 1) c7) (L.length + 1) (dcs (sortD (l.take (k + 1)))) ∧ Below w.heap.size w w7) := Lib.hid (by
                intro A7 c7 w7 o7 g7
                rw [← Hnew.out] at o7
                have e1 : (sortD (l.take (k + 1))).length = L.length + 1 := by have := o7.1; rw [dcs_length] at this; omega
                exact ⟨e1, o7.mono hbw.size, below_kept hbw (Nat.le_refl _) (below_grown hd6 g7 (Nat.le_refl _) (fun k hk => (own6.lt k hk).1))⟩)
              have Hl6 := Lib.hid hl6
              have Hdl := Lib.hid hdl
              have Hsd6 := Lib.hid hsd6
              clear hT hl6 hdl hsd6
              go_wp2_with (at_builtin
                           refine wpList_appendN _ rfl _ _ rfl w1.heap.size (.slice A3 (j + 1) c3) (j + 1) (L.take j ++ [(x0, x1)]) Hl6.out rfl own6 (some ⟨b2, off2 + j * 2, none⟩) (L.length - j) (c' - j) (L.drop j) w1.heap.size (L.length + 1) ?_ rfl Hdl.out (Hsd6.out.drop j) ?_ ?_ ?_ ?_
                           · omega
                           · omega
                           · omega
                           · exact hd6.size
                           intro A7 c7 w7 own7 hg7)
              have hf := hfull.out A7 c7 w7 own7 hg7
              have Hf := Lib.hid hf
              clear hf own7 hg7 hfull hd6 own6
              go_wp2
              go_roundw
              case rel =>
                obtain ⟨e1, o7, b7⟩ := Hf.out
                exact ⟨k + 1, A7, c7, by omega, by go_num, by rw [e1], by rw [e1]; exact o7, b7⟩
              case measure => simp [intOf]; omega
          · replace hjk := (Hstep.out).1 hz
            clear Hstep hz how hbw q2 q3
            go_wp2
            go_roundw
            case rel => exact ⟨j + 1, by omega, by go_num, hjk, hbi⟩
            case measure => simp [intOf]; omega
        · replace hjk : insK (x0, x1) L = j := by have := Hle.out; omega
          have hjL : L.length ≤ j := by omega
          have Hhow := Lib.hid how
          go_wp2
          go_quiet (fail)
          replace q2 : (wr.drewN nq).cell? ⟨wo.heap.size, 0, none⟩ = some (.int .i64 x0) := q2
          replace q3 : (wr.drewN nq).cell? ⟨wo.heap.size, 1, none⟩ = some (.int .i64 x1) := q3
          replace hbw := below_drewN hbw nq
          replace how : (wr.drewN nq).ownsRow w.heap.size 161 2 (.slice A' L.length c') L.length (dcs L) := Hhow.out
          have hsz2 : wo.heap.size + 1 ≤ (wr.drewN nq).heap.size := hsz
          clear Hhow hbi hsz
          generalize wr.drewN nq = w1 at *
          by_cases hcc : c' = j
          · obtain rfl : j = c' := hcc.symm
            clear hcc
            -- behind the loop: the pair is put in at place j
            have hins : insK (x0, x1) L = j := hjk
            have hnew : sortD (l.take (k + 1)) = L.take j ++ [(x0, x1)] ++ L.drop j := by rw [Hst.out, ins_eq, hins]
            have Hnew := Lib.hid hnew
            have htl : (L.take j).length = j := by simp; omega
            have Htl := Lib.hid htl
            have hsd := (SlD.of_own how)
            have Hsd := Lib.hid hsd
            have hj0 : (0 : Int) ≤ (j : Int) := by omega
            have hj1 : (j : Int) ≤ (L.length : Int) := by omega
            have hcap := own_cap how
            have hj2 : (j : Int) ≤ (j : Int) := by omega
            clear hnew hins htl hsd hjk
            go_wp2
            go_region_held3 (fun w' => w'.cell? ⟨wo.heap.size, 0, none⟩ = some (.int .i64 x0) ∧ w'.cell? ⟨wo.heap.size, 1, none⟩ = some (.int .i64 x1) ∧ Below w1.heap.size w1 w')
              (first
                | exact reheld q2 q3 (by assumption) hg6 (fun k hk => (own5.lt k hk).1)
                | exact reheld q2 q3 (by assumption) hg5 (above_blk (by simp))
                | exact kept2 (by assumption) ((Below.refl _ _).alloc (Nat.le_refl _) _) (Nat.le_refl _)
                | exact ⟨q2, q3, (Below.refl _ _).drew⟩)
              (first
                | (refine step_appendN _ rfl _ _ rfl w1.heap.size (.slice (some ⟨w1.heap.size, 0, none⟩) 0 0) 0 [] rfl rfl ?_ _ j j (L.take j) w1.heap.size j ?_ rfl Htl.out ?_ ?_ ?_ ?_ ?_
                   · (first | exact (own_made w1 (Nat.le_refl _)).drew | exact ((own_made w1 (Nat.le_refl _)).alloc _).drew)
                   · omega
                   · exact sld2 Hsd.out (Nat.le_refl _) j (by assumption)
                   · omega
                   · omega
                   · simp <;> omega
                   intro A2 c2 w5 own5 hg5)
                | (refine step_appendN _ rfl _ _ rfl w1.heap.size (.slice (some ⟨w1.heap.size + 1, 0, none⟩) 0 0) 0 [] rfl rfl ?_ _ j j (L.take j) w1.heap.size j ?_ rfl Htl.out ?_ ?_ ?_ ?_ ?_
                   · (have h5 := own_made (w1.alloc (.cells #[.int .i64 x0, .int .i64 x1] 161)) (B := w1.heap.size) (by simp); simp only [World.size_alloc] at h5; exact h5.drew)
                   · omega
                   · exact sld2 Hsd.out (Nat.le_refl _) j (by assumption)
                   · omega
                   · omega
                   · simp <;> omega
                   intro A2 c2 w5 own5 hg5)
                | (refine step_appendN _ rfl _ _ rfl w1.heap.size (.slice A2 j c2) j ([] ++ L.take j) ?_ rfl ?_ (some ⟨w5.heap.size, 0, none⟩) 1 1 [(x0, x1)] (w5.heap.size + 1) (j + 1) rfl rfl rfl ?_ ?_ ?_ ?_ ?_
                   · simpa using Htl.out
                   · exact own5.alloc _
                   · exact SlD.one (by simp [go_sem]) (by simp [go_sem]) (Nat.lt_succ_self _)
                   · omega
                   · omega
                   · exact size2 (by assumption)
                   intro A3 c3 w6 own6 hg6)
                | (refine step_appendN _ rfl _ _ rfl w1.heap.size (.slice A2 j c2) j ([] ++ L.take j) ?_ rfl ?_ (some ⟨w1.heap.size + 1, 0, none⟩) 1 1 [(x0, x1)] (w1.heap.size + 1 + 1) (j + 1) rfl rfl rfl ?_ ?_ ?_ ?_ ?_
                   · simpa using Htl.out
                   · exact own5
                   · exact SlD.one (hg5.cell (by simp [go_sem]) (by simp [Value.ownBlock])) (hg5.cell (by simp [go_sem]) (by simp [Value.ownBlock])) (Nat.lt_succ_self _)
                   · omega
                   · omega
                   · exact size2 (by assumption)
                   intro A3 c3 w6 own6 hg6)
                | (refine step_appendN _ rfl _ _ rfl w1.heap.size (.slice A2 j c2) j ([] ++ L.take j) ?_ rfl ?_ (some ⟨w1.heap.size, 0, none⟩) 1 1 [(x0, x1)] (w1.heap.size + 1) (j + 1) rfl rfl rfl ?_ ?_ ?_ ?_ ?_
                   · simpa using Htl.out
                   · exact own5
                   · exact SlD.one (hg5.cell (by simp [go_sem]) (by simp [Value.ownBlock])) (hg5.cell (by simp [go_sem]) (by simp [Value.ownBlock])) (Nat.lt_succ_self _)
                   · omega
                   · omega
                   · exact size2 (by assumption)
                   intro A3 c3 w6 own6 hg6))
            all_goals
              rename_i hT
              have hd6 := hT.2.2
              rw [List.nil_append] at own6
              have hl6 : (L.take j ++ [(x0, x1)]).length = j + 1 := by rw [List.length_append, Htl.out]; rfl
              have hsd6 := (Hsd.out.below hd6)
              have hdl : (L.drop j).length = L.length - j := by simp
              have hfull : Hid (∀ A7 c7 w7, w7.ownsRow w1.heap.size 161 2 (.slice A7 (L.length + 1) c7) (L.length + 1) (dcs (L.take j ++ [(x0, x1)] ++ L.drop j)) → w6.grownBy w7 (Value.slice A3 (j + 1) c3).ownBlock →
                  (sortD (l.take (k + 1))).length = L.length + 1 ∧ w7.ownsRow w.heap.size 161 2 (.slice A7 (L.length + 1) c7) (L.length + 1) (dcs (sortD (l.take (k + 1)))) ∧ Below w.heap.size w w7) := Lib.hid (by
                intro A7 c7 w7 o7 g7
                rw [← Hnew.out] at o7
                have e1 : (sortD (l.take (k + 1))).length = L.length + 1 := by have := o7.1; rw [dcs_length] at this; omega
                exact ⟨e1, o7.mono hbw.size, below_kept hbw (Nat.le_refl _) (below_grown hd6 g7 (Nat.le_refl _) (fun k hk => (own6.lt k hk).1))⟩)
              have Hl6 := Lib.hid hl6
              have Hdl := Lib.hid hdl
              have Hsd6 := Lib.hid hsd6
              clear hT hl6 hdl hsd6
              go_wp2_with (at_builtin
                           refine wpList_appendN _ rfl _ _ rfl w1.heap.size (.slice A3 (j + 1) c3) (j + 1) (L.take j ++ [(x0, x1)]) Hl6.out rfl own6 A' 0 (0) (L.drop j) w1.heap.size (L.length + 1) ?_ rfl ?_ ?_ ?_ ?_ ?_ ?_
                           · omega
                           · simp <;> omega
                           · exact fun h0 => by simp at h0; omega
                           · omega
                           · omega
                           · exact hd6.size
                           intro A7 c7 w7 own7 hg7)
              have hf := hfull.out A7 c7 w7 own7 hg7
              have Hf := Lib.hid hf
              clear hf own7 hg7 hfull hd6 own6
              go_wp2
              go_roundw
              case rel =>
                obtain ⟨e1, o7, b7⟩ := Hf.out
                exact ⟨k + 1, A7, c7, by omega, by go_num, by rw [e1], by rw [e1]; exact o7, b7⟩
              case measure => simp [intOf]; omega
          · have hcc2 : ¬ j = c' := fun e => hcc e.symm
            -- behind the loop: the pair is put in at place j
            have hins : insK (x0, x1) L = j := hjk
            have hnew : sortD (l.take (k + 1)) = L.take j ++ [(x0, x1)] ++ L.drop j := by rw [Hst.out, ins_eq, hins]
            have Hnew := Lib.hid hnew
            have htl : (L.take j).length = j := by simp; omega
            have Htl := Lib.hid htl
            have hsd := (SlD.of_own how)
            have Hsd := Lib.hid hsd
            have hj0 : (0 : Int) ≤ (j : Int) := by omega
            have hj1 : (j : Int) ≤ (L.length : Int) := by omega
            have hcap := own_cap how
            have hj2 : (j : Int) ≤ (c' : Int) := by omega
            clear hnew hins htl hsd hjk
            go_wp2
            go_region_held3 (fun w' => w'.cell? ⟨wo.heap.size, 0, none⟩ = some (.int .i64 x0) ∧ w'.cell? ⟨wo.heap.size, 1, none⟩ = some (.int .i64 x1) ∧ Below w1.heap.size w1 w')
              (first
                | exact reheld q2 q3 (by assumption) hg6 (fun k hk => (own5.lt k hk).1)
                | exact reheld q2 q3 (by assumption) hg5 (above_blk (by simp))
                | exact kept2 (by assumption) ((Below.refl _ _).alloc (Nat.le_refl _) _) (Nat.le_refl _)
                | exact ⟨q2, q3, (Below.refl _ _).drew⟩)
              (first
                | (refine step_appendN _ rfl _ _ rfl w1.heap.size (.slice (some ⟨w1.heap.size, 0, none⟩) 0 0) 0 [] rfl rfl ?_ _ j c' (L.take j) w1.heap.size j ?_ rfl Htl.out ?_ ?_ ?_ ?_ ?_
                   · (first | exact (own_made w1 (Nat.le_refl _)).drew | exact ((own_made w1 (Nat.le_refl _)).alloc _).drew)
                   · omega
                   · exact sld2 Hsd.out (Nat.le_refl _) j (by assumption)
                   · omega
                   · omega
                   · simp <;> omega
                   intro A2 c2 w5 own5 hg5)
                | (refine step_appendN _ rfl _ _ rfl w1.heap.size (.slice (some ⟨w1.heap.size + 1, 0, none⟩) 0 0) 0 [] rfl rfl ?_ _ j c' (L.take j) w1.heap.size j ?_ rfl Htl.out ?_ ?_ ?_ ?_ ?_
                   · (have h5 := own_made (w1.alloc (.cells #[.int .i64 x0, .int .i64 x1] 161)) (B := w1.heap.size) (by simp); simp only [World.size_alloc] at h5; exact h5.drew)
                   · omega
                   · exact sld2 Hsd.out (Nat.le_refl _) j (by assumption)
                   · omega
                   · omega
                   · simp <;> omega
                   intro A2 c2 w5 own5 hg5)
                | (refine step_appendN _ rfl _ _ rfl w1.heap.size (.slice A2 j c2) j ([] ++ L.take j) ?_ rfl ?_ (some ⟨w5.heap.size, 0, none⟩) 1 1 [(x0, x1)] (w5.heap.size + 1) (j + 1) rfl rfl rfl ?_ ?_ ?_ ?_ ?_
                   · simpa using Htl.out
                   · exact own5.alloc _
                   · exact SlD.one (by simp [go_sem]) (by simp [go_sem]) (Nat.lt_succ_self _)
                   · omega
                   · omega
                   · exact size2 (by assumption)
                   intro A3 c3 w6 own6 hg6)
                | (refine step_appendN _ rfl _ _ rfl w1.heap.size (.slice A2 j c2) j ([] ++ L.take j) ?_ rfl ?_ (some ⟨w1.heap.size + 1, 0, none⟩) 1 1 [(x0, x1)] (w1.heap.size + 1 + 1) (j + 1) rfl rfl rfl ?_ ?_ ?_ ?_ ?_
                   · simpa using Htl.out
                   · exact own5
                   · exact SlD.one (hg5.cell (by simp [go_sem]) (by simp [Value.ownBlock])) (hg5.cell (by simp [go_sem]) (by simp [Value.ownBlock])) (Nat.lt_succ_self _)
                   · omega
                   · omega
                   · exact size2 (by assumption)
                   intro A3 c3 w6 own6 hg6)
                | (refine step_appendN _ rfl _ _ rfl w1.heap.size (.slice A2 j c2) j ([] ++ L.take j) ?_ rfl ?_ (some ⟨w1.heap.size, 0, none⟩) 1 1 [(x0, x1)] (w1.heap.size + 1) (j + 1) rfl rfl rfl ?_ ?_ ?_ ?_ ?_
                   · simpa using Htl.out
                   · exact own5
                   · exact SlD.one (hg5.cell (by simp [go_sem]) (by simp [Value.ownBlock])) (hg5.cell (by simp [go_sem]) (by simp [Value.ownBlock])) (Nat.lt_succ_self _)
                   · omega
                   · omega
                   · exact size2 (by assumption)
                   intro A3 c3 w6 own6 hg6))
            all_goals
              rename_i hT
              have hd6 := hT.2.2
              rw [List.nil_append] at own6
              have hl6 : (L.take j ++ [(x0, x1)]).length = j + 1 := by rw [List.length_append, Htl.out]; rfl
              have hsd6 := (Hsd.out.below hd6)
              have hdl : (L.drop j).length = L.length - j := by simp
              have hfull : Hid (∀ A7 c7 w7, w7.ownsRow w1.heap.size 161 2 (.slice A7 (L.length + 1) c7) (L.length + 1) (dcs (L.take j ++ [(x0, x1)] ++ L.drop j)) → w6.grownBy w7 (Value.slice A3 (j + 1) c3).ownBlock →
                  (sortD (l.take (k + 1))).length = L.length + 1 ∧ w7.ownsRow w.heap.size 161 2 (.slice A7 (L.length + 1) c7) (L.length + 1) (dcs (sortD (l.take (k + 1)))) ∧ Below w.heap.size w w7) := Lib.hid (by
                intro A7 c7 w7 o7 g7
                rw [← Hnew.out] at o7
                have e1 : (sortD (l.take (k + 1))).length = L.length + 1 := by have := o7.1; rw [dcs_length] at this; omega
                exact ⟨e1, o7.mono hbw.size, below_kept hbw (Nat.le_refl _) (below_grown hd6 g7 (Nat.le_refl _) (fun k hk => (own6.lt k hk).1))⟩)
              have Hl6 := Lib.hid hl6
              have Hdl := Lib.hid hdl
              have Hsd6 := Lib.hid hsd6
              clear hT hl6 hdl hsd6
              go_wp2_with (at_builtin
                           refine wpList_appendN _ rfl _ _ rfl w1.heap.size (.slice A3 (j + 1) c3) (j + 1) (L.take j ++ [(x0, x1)]) Hl6.out rfl own6 (Option.map (fun x => x.add (j * 2)) A') 0 (c' - j) (L.drop j) w1.heap.size (L.length + 1) ?_ rfl ?_ ?_ ?_ ?_ ?_ ?_
                           · omega
                           · simp <;> omega
                           · exact fun h0 => by simp at h0; omega
                           · omega
                           · omega
                           · exact hd6.size
                           intro A7 c7 w7 own7 hg7)
              have hf := hfull.out A7 c7 w7 own7 hg7
              have Hf := Lib.hid hf
              clear hf own7 hg7 hfull hd6 own6
              go_wp2
              go_roundw
              case rel =>
                obtain ⟨e1, o7, b7⟩ := Hf.out
                exact ⟨k + 1, A7, c7, by omega, by go_num, by rw [e1], by rw [e1]; exact o7, b7⟩
              case measure => simp [intOf]; omega
    · obtain rfl : k = l.length := by omega
      rw [List.take_length] at ho
      have hres : GivD w (sortD l) (.returned (.slice A' (sortD l).length c')) wr := ⟨A', c', rfl, ho, hb⟩
      have Hres := Lib.hid hres
      clear ho hb h hres
      rw [List.take_length]
      go_wp2
      go_ret
      exact Hres.out

end Go.Proofs.Ytfkkbjbgjmaciaa
