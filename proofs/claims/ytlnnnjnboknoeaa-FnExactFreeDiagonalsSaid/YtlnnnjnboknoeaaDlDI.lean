/- slices.IndexFunc and slices.DeleteFunc over diagonals, at the closure of FreeDiagonals. -/
import Derived.Test.YtlnnnjnboknoeaaAddI
import Derived.Lib.SliceRun
namespace Go.Proofs.Ytlnnnjnboknoeaa
set_option linter.unusedVariables false
open Go.RowKit

theorem fre_closure (gn gs : Nat) (n : Int) (A : Option Addr) (q c B : Nat) (l : List (Int × Int)) (x y : Int) (w : World) (h0 : w.cell? ⟨gn, 0, none⟩ = some (.int .i64 n)) (h1 : w.cell? ⟨gs, 0, none⟩ = some (.slice A q c)) (h : SlD w B A l) (hB : B ≤ w.heap.size) (hq : l.length = q) (hl : q ≤ 1048576) (hlc : q ≤ c) :
    Calls Try.prog 77 #[.agg #[.int .i64 x, .int .i64 y], .pointer (some ⟨gn, 0, none⟩), .pointer (some ⟨gs, 0, none⟩)] w fun e w' => e = .returned (.bool (!addB n l (x, y))) ∧ Below w.heap.size w w' := by
  have hg0 : gn < w.heap.size := World.block_lt_of_cell? w _ h0
  have hg1 : gs < w.heap.size := World.block_lt_of_cell? w _ h1
  have hcall := fun (w' : World) (hb : Below w.heap.size w w') => impl_AddDiagonal n A c B l x y w' (h.below (hb.mono hB)) (Nat.le_trans hB hb.size) (by omega) (by omega)
  rw [hq] at hcall
  have Hcall := Lib.hid hcall
  clear hcall h hq
  go_enter Try.func77, Try.ntmps77
  go_wp2_with fail
  refine (Hcall.out _ ((Below.refl _ _).alloc (Nat.le_refl _) _)).mono ?_
  rintro e w1 ⟨A1, c1, rfl, o1, hb⟩
  have hd : Below w.heap.size w w1 := ((Below.refl _ _).alloc (Nat.le_refl _) _).trans (hb.mono (by simp))
  have Hd := Lib.hid hd
  clear hd hb o1 Hcall h0 h1
  go_wp2
  go_ret
  exact ⟨rfl, Hd.out⟩

/-- what is asked of the closure: it tells of each diagonal whether it is not wanted -/
def TellF (gn gs : Nat) (P : Int × Int → Bool) (w0 : World) : Prop :=
  ∀ (x y : Int) (w : World), Below (gs + 1) w0 w → Calls Try.prog 77 #[.agg #[.int .i64 x, .int .i64 y], .pointer (some ⟨gn, 0, none⟩), .pointer (some ⟨gs, 0, none⟩)] w fun e w' => e = .returned (.bool (!P (x, y))) ∧ Below w.heap.size w w'
/-- where the first one is that is not kept; less than none: -1 -/
def FoundF (w : World) (m : Nat) (p : Nat → Bool) (e : Ending) (w' : World) : Prop :=
  ∃ r : Int, e = .returned (.int .i64 r) ∧ ((r = -1 ∧ ∀ x, x < m → p x = true) ∨ ∃ i : Nat, r = (i : Int) ∧ i < m ∧ (∀ x, x < i → p x = true) ∧ p i = false) ∧ Below w.heap.size w w'

set_option maxRecDepth 100000 in
set_option maxHeartbeats 3200000 in
theorem indexFunc_free (gn gs : Nat) (P : Int × Int → Bool) (w0 : World) (A : Option Addr) (c base m : Nat) (l : List (Int × Int)) (w : World) (hT : TellF gn gs P w0) (hw : Below (gs + 1) w0 w) (hg : gs + 1 ≤ base) (hbase : base ≤ w.heap.size) (h : w.ownsRow base 49 2 (.slice A m c) m (dcs l)) (hm : l.length = m) (hm9 : m ≤ 100000) :
    Calls Try.prog 104 #[.slice A m c, .func (.func 77) #[] #[.pointer (some ⟨gn, 0, none⟩), .pointer (some ⟨gs, 0, none⟩)]] w (FoundF w m (fun j => P (l.getD j (0, 0)))) := by
  have hown : w.ownsRow base 49 2 (.slice A l.length c) l.length (dcs l) := by rw [hm]; exact h
  have H := Lib.hid (SlD.of_own hown)
  have HT := Lib.hid hT
  have Hm := Lib.hid hm
  have Hw := Lib.hid hw
  clear hT h hm hw hown
  go_enter Try.func104, Try.ntmps104
  go_wp2
  go_loopw [5, 8] (fun _ i wr => ∃ k : Nat, k ≤ m ∧ i = .int .i64 k ∧ (∀ x, x < k → P (l.getD x (0, 0)) = true) ∧ Below w.heap.size w wr) (fun _ i _ => m - (intOf i).toNat)
  case atStart => exact ⟨0, Nat.zero_le _, rfl, fun x hx => by omega, Below.refl _ _⟩
  case round =>
    obtain ⟨k, hk, rfl, hall, hb⟩ := hrel
    have Hall := Lib.hid hall
    clear hall
    by_cases hlt : k < m
    · obtain ⟨b2, off, rfl, hbB, hc⟩ := H.out.below hb (by rw [Hm.out]; omega)
      obtain ⟨g0, g1⟩ := hc k (by rw [Hm.out]; exact hlt)
      have i0 : (0 : Int) ≤ (k : Int) := by omega
      have i1 : (k : Int) < (m : Int) := by omega
      generalize hd : l.getD k (0, 0) = d at *
      have HD := Lib.hid hd
      obtain ⟨u, v⟩ := d
      dsimp only at g0 g1
      have Hcall := Lib.hid (HT.out u v wr (Hw.out.trans (hb.mono (Nat.le_trans hg hbase))))
      have Hb := Lib.hid hb
      clear hc hd hb
      go_wp2_with fail
      refine Hcall.out.mono ?_
      rintro e w3 ⟨rfl, b3⟩
      have B3 := Lib.hid (below_kept Hb.out (Nat.le_refl _) b3)
      clear b3 Hcall g0 g1
      cases hx : P (u, v)
      · have hE : FoundF w m (fun j => P (l.getD j (0, 0))) (.returned (.int .i64 k)) w3 := ⟨k, rfl, .inr ⟨k, rfl, hlt, Hall.out, by dsimp only; rw [HD.out]; exact hx⟩, B3.out⟩
        have HE := Lib.hid hE
        clear hE hx
        simp only [Bool.not_false]
        go_wp2
        go_ret
        exact HE.out
      · have Hx := Lib.hid hx
        clear hx
        simp only [Bool.not_true]
        go_wp2
        go_roundw
        case rel => exact ⟨k + 1, by omega, by go_num, fun x hx => by
          by_cases e : x = k
          · rw [e, HD.out]; exact Hx.out
          · exact Hall.out x (by omega), B3.out⟩
        case measure => simp [intOf]; omega
    · obtain rfl : k = m := by omega
      have hE : FoundF w k (fun j => P (l.getD j (0, 0))) (.returned (.int .i64 (-1))) wr := ⟨-1, rfl, .inl ⟨rfl, Hall.out⟩, hb⟩
      have HE := Lib.hid hE
      clear hE hb
      go_wp2
      go_ret
      exact HE.out

/-- diagonals in the making: t of the first k kept, all from k on as they were -/
def KpD (l vs : List (Int × Int)) (P : Int × Int → Bool) (t k : Nat) : Prop := vs.length = l.length ∧ vs.take t = (l.take k).filter P ∧ t = ((l.take k).filter P).length ∧ ∀ x, k ≤ x → vs.getD x (0, 0) = l.getD x (0, 0)
theorem take_snocD {l : List (Int × Int)} {k : Nat} (h : k < l.length) : l.take (k + 1) = l.take k ++ [l.getD k (0, 0)] := by
  rw [List.take_succ_eq_append_getElem h, getD_at h]
theorem KpD.start {l : List (Int × Int)} {P : Int × Int → Bool} {i : Nat} (hi : i < l.length) (h : ∀ x, x < i → P (l.getD x (0, 0)) = true) (h2 : P (l.getD i (0, 0)) = false) : KpD l l P i (i + 1) := by
  have hf : (l.take (i + 1)).filter P = l.take i := by
    rw [take_snocD hi, List.filter_append]
    have : [l.getD i (0, 0)].filter P = [] := by rw [List.filter_cons_of_neg (by rw [h2]; exact Bool.false_ne_true), List.filter_nil]
    rw [this, List.append_nil]
    refine List.filter_eq_self.2 fun x hx => ?_
    obtain ⟨j, hj, rfl⟩ := List.mem_take_iff_getElem.1 hx
    have := h j (by omega)
    rwa [getD_at (by omega)] at this
  exact ⟨rfl, hf.symm, by rw [hf, List.length_take]; omega, fun x _ => rfl⟩
theorem KpD.miss {l vs : List (Int × Int)} {P : Int × Int → Bool} {t k : Nat} (h : KpD l vs P t k) (hk : k < l.length) (h2 : P (l.getD k (0, 0)) = false) : KpD l vs P t (k + 1) := by
  obtain ⟨a, b, c, d⟩ := h
  have hf : (l.take (k + 1)).filter P = (l.take k).filter P := by
    rw [take_snocD hk, List.filter_append]
    have : [l.getD k (0, 0)].filter P = [] := by rw [List.filter_cons_of_neg (by rw [h2]; exact Bool.false_ne_true), List.filter_nil]
    rw [this, List.append_nil]
  exact ⟨a, by rw [hf]; exact b, by rw [hf]; exact c, fun x hx => d x (by omega)⟩
theorem KpD.hit {l vs : List (Int × Int)} {P : Int × Int → Bool} {t k : Nat} (h : KpD l vs P t k) (htk : t < k) (hk : k < l.length) (h2 : P (l.getD k (0, 0)) = true) : KpD l (vs.set t (l.getD k (0, 0))) P (t + 1) (k + 1) := by
  obtain ⟨a, b, c, d⟩ := h
  have hf : (l.take (k + 1)).filter P = (l.take k).filter P ++ [l.getD k (0, 0)] := by
    rw [take_snocD hk, List.filter_append]
    have : [l.getD k (0, 0)].filter P = [l.getD k (0, 0)] := List.filter_eq_self.2 (by intro x hx; rw [List.mem_singleton.1 hx]; exact h2)
    rw [this]
  refine ⟨by rw [List.length_set, a], ?_, by rw [hf, List.length_append, ← c]; rfl, fun x hx => ?_⟩
  · rw [hf, ← b, List.take_succ_eq_append_getElem (by rw [List.length_set]; omega), List.take_set_of_le (Nat.le_refl _)]
    simp
  · have := d x (by omega)
    rw [← this]
    simp only [List.getD_eq_getElem?_getD, List.getElem?_set]
    rw [if_neg (by omega)]
theorem own_putD {w : World} {base g n c : Nat} {vs : List (Int × Int)} (h : w.ownsRow base 49 2 (.slice (some ⟨g, 0, none⟩) n c) n (dcs vs)) (hn : vs.length = n) (t : Nat) (ht : t < n) (u v : Int) :
    ((w.setCell ⟨g, t * 2, none⟩ (.int .i64 u)).setCell ⟨g, t * 2 + 1, none⟩ (.int .i64 v)).ownsRow base 49 2 (.slice (some ⟨g, 0, none⟩) n c) n (dcs (vs.set t (u, v))) ∧
    w.grownBy ((w.setCell ⟨g, t * 2, none⟩ (.int .i64 u)).setCell ⟨g, t * 2 + 1, none⟩ (.int .i64 v)) (some g) := by
  obtain ⟨h1, h2⟩ := h.stored (t * 2) (.int .i64 u)
  rw [dcs_set0 vs u t (by omega)] at h1
  obtain ⟨h3, h4⟩ := h1.stored (t * 2 + 1) (.int .i64 v)
  rw [dcs_set1 _ v t (by rw [List.length_set]; omega)] at h3
  have e : (vs.set t (u, (vs.getD t (0, 0)).2)).set t (((vs.set t (u, (vs.getD t (0, 0)).2)).getD t (0, 0)).1, v) = vs.set t (u, v) := by
    rw [List.set_set]
    congr 2
    simp [List.getD_eq_getElem?_getD, hn, ht]
  rw [e] at h3
  exact ⟨h3, h2.trans h4⟩
theorem own_frontD {w : World} {base e g n c i : Nat} {xs : List Value} (h : w.ownsRow base e 2 (.slice (some ⟨g, 0, none⟩) n c) n xs) (hi : i ≤ n) : w.ownsRow base e 2 (.slice (some ⟨g, 0, none⟩) i c) i (xs.take (i * 2)) := by
  rcases h.2 with ⟨h', _⟩ | ⟨g', cap', cur, h', hb, hg, hnc, hcm, hcs, htake⟩
  · simp at h'
  · simp only [Value.slice.injEq, Option.some.injEq, Addr.mk.injEq, and_true, true_and] at h'
    obtain ⟨rfl, rfl⟩ := h'
    refine ⟨by have := h.1; simp; omega, .inr ⟨g, c, cur, rfl, hb, hg, by omega, hcm, hcs, ?_⟩⟩
    rw [← htake, List.take_take]
    congr 1
    omega
theorem own_clearedD {base e g n c : Nat} {xs : List Value} : ∀ (l : List Value) (o : Nat) (w : World), w.ownsRow base e 2 (.slice (some ⟨g, 0, none⟩) n c) n xs → n * 2 ≤ o → (w.setCells g o l).ownsRow base e 2 (.slice (some ⟨g, 0, none⟩) n c) n xs ∧ w.grownBy (w.setCells g o l) (some g)
  | [], _, w, h, _ => ⟨h, World.grownBy.refl w _⟩
  | v :: r, o, w, h, ho => by
    obtain ⟨h1, h2⟩ := h.stored o v
    have hx : xs.set o v = xs := List.set_eq_of_length_le (by have := h.1; omega)
    rw [hx] at h1
    obtain ⟨h3, h4⟩ := own_clearedD r (o + 1) (w.setCell ⟨g, o, none⟩ v) h1 (by omega)
    exact ⟨h3, h2.trans h4⟩
theorem clear_cellsD (w : World) (ty : TypeId) (b o n c : Nat) (hn : 0 < n) (hc : ∀ j, j < n * 2 → (w.cell? ⟨b, o + j, none⟩).isSome = true) (hf : ∀ j, j < n * 2 → w.frozen? ⟨b, o + j, none⟩ = false) :
    (Builtin.clear_ #[25] ty #[.slice (some ⟨b, o, none⟩) n c]).run Try.prog w = .ok (.tuple #[]) (w.setCells b o (Builtin.zeroCells (Value.agg #[.int .i64 0, .int .i64 0]).cells n).toList) := by
  have hu : Try.prog.underlying 25 = some (.slice 49) := Try.underlying25
  have hv : ∀ w : World, (zeroValue 49).run Try.prog w = .ok (.agg #[.int .i64 0, .int .i64 0]) w := fun w => by kernel_rfl
  have hcs : (Value.agg #[.int .i64 0, .int .i64 0]).cells = #[.int .i64 0, .int .i64 0] := rfl
  have hlen : (Builtin.zeroCells (Value.agg #[.int .i64 0, .int .i64 0]).cells n).toList.length = n * 2 := by rw [Array.length_toList, size_zeroCells, hcs]; rfl
  have hone : ∀ v ∈ (Builtin.zeroCells (Value.agg #[.int .i64 0, .int .i64 0]).cells n).toList, v.oneCell' = true := by
    intro v hv
    rw [hcs] at hv
    unfold Builtin.zeroCells at hv
    simp only [Array.toList_map, List.mem_map] at hv
    obtain ⟨i, _, rfl⟩ := hv
    have : i % 2 = 0 ∨ i % 2 = 1 := by omega
    rcases this with h | h <;> simp [h] <;> rfl
  have hst := run_storeCells_cells (P := Try.prog) b o _ 0 w (by rw [hlen]; simpa using hc) (by rw [hlen]; simpa using hf) hone
  simp only [Nat.add_zero] at hst
  obtain ⟨m, rfl⟩ : ∃ m, n = m + 1 := ⟨n - 1, by omega⟩
  simp [Builtin.clear_, run_underlying hu, hv, hst]

/-- diagonals kept, in the block they were in -/
def KeptD (w : World) (base : Nat) (R : List (Int × Int)) (e : Ending) (w' : World) : Prop :=
  ∃ A c, e = .returned (.slice A R.length c) ∧ w'.ownsRow base 49 2 (.slice A R.length c) R.length (dcs R) ∧ Below base w w'

set_option maxRecDepth 100000 in
set_option maxHeartbeats 3200000 in
theorem deleteFunc_free (gn gs : Nat) (P : Int × Int → Bool) (w0 : World) (A : Option Addr) (c base m : Nat) (l : List (Int × Int)) (w : World) (hT : TellF gn gs P w0) (hw : Below (gs + 1) w0 w) (hg : gs + 1 ≤ base) (hbase : base ≤ w.heap.size) (h : w.ownsRow base 49 2 (.slice A m c) m (dcs l)) (hm : l.length = m) (hm9 : m ≤ 100000) :
    Calls Try.prog 75 #[.slice A m c, .func (.func 77) #[] #[.pointer (some ⟨gn, 0, none⟩), .pointer (some ⟨gs, 0, none⟩)]] w (KeptD w base (l.filter P)) := by
  have hidx := indexFunc_free gn gs P w0 A c base m l w hT hw hg hbase h hm hm9
  have hcap : m ≤ c := own_cap h
  have Hidx := Lib.hid hidx
  have HT := Lib.hid hT
  have H := Lib.hid h
  have Hm := Lib.hid hm
  have Hw := Lib.hid hw
  clear hidx hT h hm hw
  go_enter Try.func75, Try.ntmps75
  go_wp2_with fail
  refine Hidx.out.mono ?_
  rintro e w1 ⟨r, rfl, hr, b1⟩
  have HO1 := Lib.hid (own_kept H.out b1)
  have Hb1 := Lib.hid (b1.mono hbase)
  have Hw1 := Lib.hid (Hw.out.trans (b1.mono (Nat.le_trans hg hbase)))
  have z1 : base ≤ w1.heap.size := Nat.le_trans hbase b1.size
  clear b1 Hidx H Hw
  rcases hr with ⟨rfl, hall⟩ | ⟨i0, rfl, hi0, hbefore, hno⟩
  · have hLs : l.filter P = l := List.filter_eq_self.2 fun x hx => by
      obtain ⟨j, hj, rfl⟩ := List.getElem_of_mem hx
      have := hall j (by rw [← Hm.out]; exact hj)
      dsimp only at this
      rwa [getD_at hj] at this
    have hE : KeptD w base (l.filter P) (.returned (.slice A m c)) w1 := by
      rw [hLs]
      exact ⟨_, c, by rw [Hm.out], by rw [Hm.out]; exact HO1.out, Hb1.out⟩
    have HE := Lib.hid hE
    clear hE hLs hall
    go_wp2
    go_ret
    exact HE.out
  · obtain ⟨g, rfl⟩ : ∃ g, A = some ⟨g, 0, none⟩ := by
      rcases HO1.out.2 with ⟨_, h0⟩ | ⟨g', cap, cur, h', _⟩
      · omega
      · cases h'; exact ⟨g', rfl⟩
    have hgb := (own_base2 HO1.out).1
    have ne1 : ¬ (i0 : Int) = -1 := by omega
    have HK0 := Lib.hid (KpD.start (l := l) (P := P) (by rw [Hm.out]; exact hi0) hbefore hno)
    clear hbefore hno
    go_wp2
    go_loopw [5, 6, 7] (fun i j _ wr => ∃ (k t : Nat) (vs : List (Int × Int)), t < k ∧ k ≤ m ∧ i = .int .i64 t ∧ j = .int .i64 k ∧ KpD l vs P t k ∧ wr.ownsRow base 49 2 (.slice (some ⟨g, 0, none⟩) m c) m (dcs vs) ∧ Below base w wr ∧ Below (gs + 1) w0 wr) (fun _ j _ _ => m - (intOf j).toNat)
    case atStart => exact ⟨i0 + 1, i0, l, Nat.lt_succ_self _, hi0, rfl, by simp, HK0.out, HO1.out, Hb1.out, Hw1.out⟩
    case round =>
      clear HK0 Hb1 Hw1 HO1
      obtain ⟨k, t, vs, htk, hk, rfl, rfl, hK, ho, hb, hbw⟩ := hrel
      have zr2 : base ≤ wr.heap.size := Nat.le_trans hbase hb.size
      have hvl : vs.length = m := by rw [hK.1, Hm.out]
      by_cases hlt : k < m
      · have hvk := hK.2.2.2 k (Nat.le_refl _)
        have hown : wr.ownsRow base 49 2 (.slice (some ⟨g, 0, none⟩) vs.length c) vs.length (dcs vs) := by rw [hvl]; exact ho
        obtain ⟨b2, off, e2, hbB, hc⟩ := SlD.of_own hown (by omega)
        cases e2
        obtain ⟨g0, g1⟩ := hc k (by omega)
        rw [hvk] at g0 g1
        rw [Nat.zero_add] at g0 g1
        have hmiss := fun h2 => hK.miss (by rw [Hm.out]; exact hlt) h2
        have hhit := fun h2 => hK.hit htk (by rw [Hm.out]; exact hlt) h2
        have i0' : (0 : Int) ≤ (k : Int) := by omega
        have i1 : (k : Int) < (m : Int) := by omega
        generalize l.getD k (0, 0) = d at *
        obtain ⟨u, v⟩ := d
        dsimp only at g0 g1
        have Hmiss := Lib.hid hmiss
        have Hhit := Lib.hid hhit
        have hbw1 := hbw.alloc (by omega) (.cells #[.int .i64 u, .int .i64 v] 49)
        have Hcall := Lib.hid (HT.out u v _ hbw1)
        have Ho := Lib.hid (ho.alloc (.cells #[.int .i64 u, .int .i64 v] 49))
        have Hb := Lib.hid (hb.alloc zr2 (.cells #[.int .i64 u, .int .i64 v] 49))
        have Hbw := Lib.hid hbw1
        have p0 : (wr.alloc (.cells #[.int .i64 u, .int .i64 v] 49)).cell? ⟨wr.heap.size, 0, none⟩ = some (.int .i64 u) := by simp [go_sem]
        have p1 : (wr.alloc (.cells #[.int .i64 u, .int .i64 v] 49)).cell? ⟨wr.heap.size, 1, none⟩ = some (.int .i64 v) := by simp [go_sem]
        have P0 := Lib.hid p0
        have P1 := Lib.hid p1
        clear hc hvk hown hmiss hhit hbw1 p0 p1 ho hb hbw hK
        go_wp2_with fail
        refine Hcall.out.mono ?_
        rintro e w3 ⟨rfl, b3⟩
        have zw : base ≤ (wr.alloc (.cells #[.int .i64 u, .int .i64 v] 49)).heap.size := by simp; omega
        have Ho3 := Lib.hid (own_kept Ho.out b3)
        have Hb3 := Lib.hid (Hb.out.trans (b3.mono zw))
        have Hbw3 := Lib.hid (Hbw.out.trans (b3.mono (Nat.le_trans hg zw)))
        have q0 := cell_kept b3 P0.out
        have q1 := cell_kept b3 P1.out
        have hgw : g < wr.heap.size := hbB
        have z3 : wr.heap.size < w3.heap.size := World.block_lt_of_cell? w3 _ q0
        clear b3 Hcall Ho Hb Hbw P0 P1 g0 g1 zw hbB
        cases hx : P (u, v)
        · have HK2 := Lib.hid (Hmiss.out hx)
          clear hx Hmiss Hhit
          simp only [Bool.not_false]
          go_wp2
          go_roundw
          case rel => exact ⟨k + 1, t, vs, by omega, by omega, rfl, by go_num, HK2.out, Ho3.out, Hb3.out, Hbw3.out⟩
          case measure => simp [intOf]; omega
        · have HK2 := Lib.hid (Hhit.out hx)
          obtain ⟨hs1, hs2⟩ := own_putD Ho3.out hvl t (by omega) u v
          obtain ⟨x0, tc0⟩ := Option.isSome_iff_exists.1 (own_spare2 Ho3.out (t * 2) (by omega))
          obtain ⟨x1, tc1⟩ := Option.isSome_iff_exists.1 (own_spare2 Ho3.out (t * 2 + 1) (by omega))
          have tf0 := Ho3.out.frozenAt (t * 2)
          have tf1 := Ho3.out.frozenAt (t * 2 + 1)
          have hb4 := below_grown Hb3.out hs2 hbase (fun k hk => by injection hk with hk; omega)
          have hbw4 := Hbw3.out.grown hs2 (by omega) (fun k hk => by injection hk with hk; omega)
          have Hs := Lib.hid hs1
          have Hb4 := Lib.hid hb4
          have Hbw4 := Lib.hid hbw4
          have t0 : (0 : Int) ≤ (t : Int) := by omega
          have t1 : (t : Int) < (m : Int) := by omega
          have tb : (t : Int) ≤ 100000 := by omega
          clear hx hs1 hs2 hb4 hbw4 Ho3 Hb3 Hbw3 Hmiss Hhit
          simp only [Bool.not_true]
          go_wp2
          go_roundw
          case rel => exact ⟨k + 1, t + 1, _, by omega, by omega, by go_num, by go_num, HK2.out, Hs.out, Hb4.out, Hbw4.out⟩
          case measure => simp [intOf]; omega
      · obtain rfl : k = m := by omega
        have t1 : t < k := htk
        have hclear := fun ty => clear_cellsD wr ty g (t * 2) (k - t) (c - t) (by omega) (fun j hj => own_spare2 ho _ (by omega)) (fun j hj => ho.frozenAt _)
        have hfr := own_frontD ho (show t ≤ k by omega)
        obtain ⟨hc1, hc2⟩ := own_clearedD (Builtin.zeroCells (Value.agg #[.int .i64 0, .int .i64 0]).cells (k - t)).toList (t * 2) wr hfr (Nat.le_refl _)
        have hb4 := below_grown hb hc2 hbase (fun k hk => by injection hk with hk; omega)
        generalize (Builtin.zeroCells (Value.agg #[.int .i64 0, .int .i64 0]).cells (k - t)).toList = Z at *
        have hfl : l.take k = l := by rw [← Hm.out]; exact List.take_length
        have hv2 := hK.2.1
        have hv3 := hK.2.2.1
        rw [hfl] at hv2 hv3
        rw [dcs_take, hv2] at hc1
        have hE : KeptD w base (l.filter P) (.returned (.slice (some ⟨g, 0, none⟩) t c)) (wr.setCells g (t * 2) Z) := ⟨_, c, by rw [← hv3], by rw [← hv3]; exact hc1, hb4⟩
        have HE := Lib.hid hE
        have k1 : (t : Int) ≤ (k : Int) := by omega
        have k0 : (0 : Int) ≤ (t : Int) := by omega
        have kc : (t : Int) ≤ (c : Int) := by omega
        have ct : ¬ c = t := by omega
        clear hE hb4 hc1 hc2 hfr hvl hK ho hb hbw hfl hv2 hv3
        go_wp2
        go_ret
        exact HE.out
end Go.Proofs.Ytlnnnjnboknoeaa
