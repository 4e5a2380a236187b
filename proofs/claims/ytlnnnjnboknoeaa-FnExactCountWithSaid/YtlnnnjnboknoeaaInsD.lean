/- slices.Insert of one diagonal into a row of the call's own, of any length: its library text walked at this seat. -/
import Derived.Shelf.Spec.SlicesInsert
import Derived.Lib.AppendZerosOnto
import Derived.Lib.Overlaps
import Derived.Laws.NewBlocks
import Derived.Test.YtlnnnjnboknoeaaLawM
import Derived.Test.YtlnnnjnboknoeaaAppS
namespace Go.Proofs.Ytlnnnjnboknoeaa
set_option linter.unusedVariables false
open Go.RowKit

/-- cells that are set one after the other -/
def setM (xs : List Value) : Nat → List Value → List Value
  | _, [] => xs
  | o, v :: vs => setM (xs.set o v) (o + 1) vs
theorem setM_length : ∀ (vs : List Value) (xs : List Value) (o : Nat), (setM xs o vs).length = xs.length := by
  intro vs
  induction vs with
  | nil => intro xs o; rfl
  | cons v vs ih => intro xs o; show (setM (xs.set o v) (o + 1) vs).length = _; rw [ih, List.length_set]
theorem setM_eq : ∀ (vs : List Value) (xs : List Value) (o : Nat), o + vs.length ≤ xs.length → setM xs o vs = xs.take o ++ vs ++ xs.drop (o + vs.length) := by
  intro vs
  induction vs with
  | nil => intro xs o _; simp [setM]
  | cons v vs ih =>
    intro xs o h
    rw [List.length_cons] at h
    show setM (xs.set o v) (o + 1) vs = _
    rw [ih _ _ (by rw [List.length_set]; omega)]
    have e1 : (xs.set o v).take (o + 1) = xs.take o ++ [v] := by
      rw [List.take_succ_eq_append_getElem (by rw [List.length_set]; omega), List.take_set_of_le (Nat.le_refl _)]
      simp
    have e2 : (xs.set o v).drop (o + 1 + vs.length) = xs.drop (o + (v :: vs).length) := by
      rw [List.drop_set_of_lt (by omega), List.length_cons]
      congr 1
      omega
    rw [e1, e2]
    simp
theorem own_setM {base e z g n c : Nat} : ∀ (vs : List Value) (xs : List Value) (o : Nat) (w : World), w.ownsRow base e z (.slice (some ⟨g, 0, none⟩) n c) n xs → (w.setCells g o vs).ownsRow base e z (.slice (some ⟨g, 0, none⟩) n c) n (setM xs o vs) := by
  intro vs
  induction vs with
  | nil => intro xs o w h; exact h
  | cons v vs ih => intro xs o w h; exact ih _ _ _ (h.stored o v).1
theorem below_setM {B g : Nat} {w0 : World} (hg : B ≤ g) : ∀ (vs : List Value) (o : Nat) (w : World), Below B w0 w → Below B w0 (w.setCells g o vs) := by
  intro vs
  induction vs with
  | nil => intro o w h; exact h
  | cons v vs ih => intro o w h; exact ih _ _ (h.setCell (p := ⟨g, o, none⟩) hg v)
theorem own_more2 {w : World} {base e g n c : Nat} {xs : List Value} (h : w.ownsRow base e 2 (.slice (some ⟨g, 0, none⟩) n c) n xs) (hc : n + 1 ≤ c) : ∃ x y, w.ownsRow base e 2 (.slice (some ⟨g, 0, none⟩) (n + 1) c) (n + 1) (xs ++ [x, y]) := by
  rcases h.2 with ⟨h', _⟩ | ⟨g', cap, cur, h', hb, hh, _, hcm, hs, ht⟩
  · cases h'
  · cases h'
    have hl : n * 2 + 1 < cur.toList.length := by rw [Array.length_toList]; omega
    refine ⟨cur.toList[n * 2], cur.toList[n * 2 + 1], by rw [List.length_append, h.1]; simp; omega, .inr ⟨g, c, cur, rfl, hb, hh, hc, hcm, hs, ?_⟩⟩
    rw [show (n + 1) * 2 = n * 2 + 1 + 1 by omega, List.take_succ_eq_append_getElem hl, List.take_succ_eq_append_getElem (by omega), ht]
    simp
theorem own_base2 {w : World} {base e g n c : Nat} {xs : List Value} (h : w.ownsRow base e 2 (.slice (some ⟨g, 0, none⟩) n c) n xs) : base ≤ g ∧ n ≤ c ∧ c ≤ maxLen ∧ w.shape? g = some (e, c * 2) := by
  rcases h.2 with ⟨h', _⟩ | ⟨g', cap, cur, h', hb, hh, hn, hcm, hs, ht⟩
  · cases h'
  · cases h'
    refine ⟨hb, hn, hcm, ?_⟩
    unfold World.shape?
    rw [hh]
    simp [hs]
theorem own_spare2 {w : World} {base e g n c : Nat} {xs : List Value} (h : w.ownsRow base e 2 (.slice (some ⟨g, 0, none⟩) n c) n xs) (j : Nat) (hj : j < c * 2) : (w.cell? ⟨g, j, none⟩).isSome = true := by
  rcases h.2 with ⟨h', _⟩ | ⟨g', cap, cur, h', hb, hh, hn, hcm, hs, ht⟩
  · cases h'
  · cases h'
    rw [cell_of_row w g j cur e (0, 0) hh]
    simp
    omega
/-- the list with a diagonal put in -/
def insD (L : List (Int × Int)) (i : Nat) (d : Int × Int) : List (Int × Int) := L.take i ++ [d] ++ L.drop i
theorem insD_length (L : List (Int × Int)) (i : Nat) (d : Int × Int) (h : i ≤ L.length) : (insD L i d).length = L.length + 1 := by simp [insD]; omega
theorem dcs_take (L : List (Int × Int)) : ∀ i, (dcs L).take (i * 2) = dcs (L.take i) := by
  induction L with
  | nil => intro i; simp [dcs]
  | cons d r ih =>
    intro i
    cases i with
    | zero => simp [dcs]
    | succ i => rw [show (i + 1) * 2 = i * 2 + 1 + 1 by omega]; simp [dcs, ih]
theorem dcs_drop (L : List (Int × Int)) : ∀ i, (dcs L).drop (i * 2) = dcs (L.drop i) := by
  induction L with
  | nil => intro i; simp [dcs]
  | cons d r ih =>
    intro i
    cases i with
    | zero => simp [dcs]
    | succ i => rw [show (i + 1) * 2 = i * 2 + 1 + 1 by omega]; simp [dcs, ih]
theorem dcs_insD (L : List (Int × Int)) (i : Nat) (d : Int × Int) : dcs (insD L i d) = (dcs L).take (i * 2) ++ dcs [d] ++ (dcs L).drop (i * 2) := by
  unfold insD
  rw [dcs_append, dcs_append, dcs_take, dcs_drop]

theorem run_copy_cells2 {P : Program} (w : World) (dT sT ty elem : TypeId) (b o dLen dCap : Nat) (a : Addr) (sLen sCap m : Nat) (cs : List Value)
    (hu : P.underlying dT = some (.slice elem)) (hs : (P.info? elem).map (·.size) = some 2) (hm : m = Nat.min sLen dLen) (hn : cs.length = m * 2)
    (hsrc : ∀ j v, cs[j]? = some v → w.cell? (a.add j) = some v) (hc : ∀ j, j < cs.length → (w.cell? ⟨b, o + j, none⟩).isSome = true) (hf : ∀ j, j < cs.length → w.frozen? ⟨b, o + j, none⟩ = false) (h1 : ∀ v ∈ cs, v.oneCell' = true) :
    (Builtin.copy_ #[dT, sT] ty #[.slice (some ⟨b, o, none⟩) dLen dCap, .slice (some a) sLen sCap]).run P w = .ok (goInt m) (w.setCells b o cs) := by
  have hl := run_loadCells_list (P := P) w a cs hsrc
  have hst := run_storeCells_cells (P := P) b o cs 0 w (by simpa using hc) (by simpa using hf) h1
  cases hq : P.info? elem with
  | none => simp [hq] at hs
  | some i =>
    have hi : i.size = 2 := by simpa [hq] using hs
    subst hm
    simp [Builtin.copy_, run_underlying hu, Builtin.lenOf, Builtin.firstCells, sizeOf, typeInfo, hq, hi, ← hn, hl, hst]

def InsDE (base n : Nat) (L : List (Int × Int)) (w : World) (e : Ending) (w' : World) : Prop :=
  ∃ A' c', e = .returned (.slice A' (n + 1) c') ∧ w'.ownsRow base 49 2 (.slice A' (n + 1) c') (n + 1) (dcs L) ∧ Below base w w'

set_option maxHeartbeats 3200000 in
set_option maxRecDepth 100000 in
/-- room, not at the end: in place -/
theorem insert_shiftD (g n c i v : Nat) (cs : List Value) (x y : Int) (w : World) (hi : i < n) (hroom : n + 1 ≤ c) (hc63 : c ≤ 9223372036854775807) (hvb : v ≠ g) (hcl : cs.length = n * 2)
    (hcs : ∀ j u, cs[j]? = some u → w.cell? ⟨g, j, none⟩ = some u) (hsp : ∀ j, j < (n + 1) * 2 → (w.cell? ⟨g, j, none⟩).isSome = true) (hfz : ∀ j, w.frozen? ⟨g, j, none⟩ = false)
    (hv0 : w.cell? ⟨v, 0, none⟩ = some (.int .i64 x)) (hv1 : w.cell? ⟨v, 1, none⟩ = some (.int .i64 y)) (h1c : ∀ u ∈ cs, u.oneCell' = true)
    (tA tB : TypeId) (kA kB : Nat) (hsa : w.shape? v = some (tA, kA)) (hsb : w.shape? g = some (tB, kB)) (hkB : kB ≠ 0) (hfa : w.frozen? ⟨v, 0, none⟩ = false) (hfe : w.frozen? ⟨v, kA, none⟩ = false) :
    Calls Try.prog 73 #[.slice (some ⟨g, 0, none⟩) n c, .int .i64 i, .slice (some ⟨v, 0, none⟩) 1 1] w fun e w' =>
      e = .returned (.slice (some ⟨g, 0, none⟩) (n + 1) c) ∧ w' = (w.drew.setCells g ((i + 1) * 2) (cs.drop (i * 2))).setCells g (i * 2) [.int .i64 x, .int .i64 y] := by
  have mixed : Try.prog.follows .mixedOrders = true := by kernel_rfl
  have hz2 : ¬ ((i : Int) = (n : Int)) := by omega
  have hu : Try.prog.underlying 25 = some (.slice 49) := Try.underlying25
  have hsz : (Try.prog.info? 49).map (·.size) = some 2 := by kernel_rfl
  have hov : ∀ lb cb, (callFunc 102 #[.slice (some ⟨v, 0, none⟩) 1 1, .slice (some ⟨g, (i + 1) * 2, none⟩) lb cb]).run Try.prog w = .ok (.value (.bool false)) w := fun lb cb => by
    rw [run_callFunc_extern Try.func102 (by kernel_rfl) (by kernel_rfl) (by kernel_rfl) (e := Extern.SlicesOverlaps.overlaps #[25, 25] #[4]) (by kernel_rfl),
      Lib.run_overlaps_apart w 25 4 49 hu 2 Try.sizeOf49 ⟨v, 0, none⟩ ⟨g, (i + 1) * 2, none⟩ 1 1 lb cb hvb tA tB kA kB hsa hsb hkB hfa hfe]
    rfl
  have hdl : (cs.drop (i * 2)).length = (n - i) * 2 := by rw [List.length_drop, hcl]; omega
  have hw1 : IntKind.i64.wrap ((i : Int) + 1) = (i : Int) + 1 := by rw [IntKind.wrap_i64]; omega
  have hw2 : IntKind.i64.wrap ((n : Int) + 1) = (n : Int) + 1 := by rw [IntKind.wrap_i64]; omega
  have hb1 : (0 : Int) ≤ (i : Int) + 1 := by omega
  have hin : i ≤ n := by omega
  have htn : ((i : Int) + 1).toNat = i + 1 := by omega
  have htn2 : ((n : Int) + 1).toNat = n + 1 := by omega
  have hb2 : ¬ (c = i + 1) := by omega
  have hb3 : (i : Int) ≤ (n : Int) + 1 := by omega
  have hb4 : ¬ (c = i) := by omega
  have hb5 : i + 1 ≤ n + 1 := by omega
  have hcp1 : ∀ ty dc sc, (Builtin.copy_ #[25, 25] ty #[.slice (some ⟨g, (i + 1) * 2, none⟩) (n - i) dc, .slice (some ⟨g, i * 2, none⟩) (n + 1 - i) sc]).run Try.prog w.drew = .ok (goInt (n - i : Nat)) (w.drew.setCells g ((i + 1) * 2) (cs.drop (i * 2))) := fun ty dc sc =>
    run_copy_cells2 w.drew _ _ ty 49 g ((i + 1) * 2) (n - i) dc ⟨g, i * 2, none⟩ (n + 1 - i) sc (n - i) (cs.drop (i * 2)) hu hsz (by show n - i = min (n + 1 - i) (n - i); omega) hdl
      (fun j u hj => by rw [Addr.add_lit]; exact hcs (i * 2 + j) u (by rwa [List.getElem?_drop] at hj))
      (fun j hj => hsp _ (by omega)) (fun j hj => hfz _) (fun u hu => h1c u (List.mem_of_mem_drop hu))
  obtain ⟨W1, hW1⟩ : ∃ W1, W1 = w.drew.setCells g ((i + 1) * 2) (cs.drop (i * 2)) := ⟨_, rfl⟩
  have hsp1 : ∀ k, k < (n + 1) * 2 → (W1.cell? ⟨g, k, none⟩).isSome = true := fun k hk => by
    rw [hW1]
    exact isSome_setCells g (cs.drop (i * 2)) ((i + 1) * 2) w.drew (fun j hj => hsp _ (by omega)) k (hsp k hk)
  have hcp2 : ∀ (W : World), (∀ x, W.cell? x = W1.cell? x) → (∀ x, W.frozen? x = W1.frozen? x) → ∀ ty dc, (Builtin.copy_ #[25, 25] ty #[.slice (some ⟨g, i * 2, none⟩) (n + 1 - i) dc, .slice (some ⟨v, 0, none⟩) 1 1]).run Try.prog W = .ok (goInt (1 : Nat)) (W.setCells g (i * 2) [.int .i64 x, .int .i64 y]) := fun W hWc hWf ty dc =>
    run_copy_cells2 W _ _ ty 49 g (i * 2) (n + 1 - i) dc ⟨v, 0, none⟩ 1 1 1 [.int .i64 x, .int .i64 y] hu hsz (by show 1 = min 1 (n + 1 - i); omega) rfl
      (fun j u hj => by
        rw [Addr.add_lit, hWc, hW1, World.cell?_setCells_out g _ _ _ _ (fun h _ => absurd h hvb)]
        match j, hj with
        | 0, hj => cases hj; exact hv0
        | 1, hj => cases hj; exact hv1)
      (fun j hj => by rw [hWc]; exact hsp1 _ (by simp at hj; omega)) (fun j hj => by rw [hWf, hW1, World.frozen?_setCells]; exact hfz _) (fun u hu => by simp at hu; rcases hu with rfl | rfl <;> rfl)
  rw [← hW1] at hcp1
  clear hcs hsp hfz hv0 hv1 h1c hsa hsb hfa hfe hsp1 hdl hcl
  go_enter Try.func73, Try.ntmps73
  go_wp2_with (simp only [hov])
  go_region_law_o (refine step_copy_runI rfl _ _ 25 25 rfl _ _ (by simp [Act.eval, Act.put]) (by simp [Act.eval, Act.put]) (hcp1 _ _ _) ?_)
  go_wp2_with (at_builtin; refine wpList_copy_runI _ rfl _ _ 25 25 rfl _ _ rfl rfl (hcp2 _ (fun _ => rfl) (fun _ => rfl) _ _) ?_)
  go_ret
  first | exact ⟨rfl, rfl⟩ | exact ⟨rfl, by rw [hW1]⟩
theorem insD_room (base g n c i v : Nat) (L : List (Int × Int)) (x y : Int) (w : World) (ho : w.ownsRow base 49 2 (.slice (some ⟨g, 0, none⟩) n c) n (dcs L)) (hL : L.length = n) (hi : i < n) (hroom : n + 1 ≤ c)
    (hv0 : w.cell? ⟨v, 0, none⟩ = some (.int .i64 x)) (hv1 : w.cell? ⟨v, 1, none⟩ = some (.int .i64 y)) (hgv : v ≠ g) (hsh : w.shape? v = some (49, 2)) (hf0 : w.frozen? ⟨v, 0, none⟩ = false) (hf1 : w.frozen? ⟨v, 2, none⟩ = false) :
    Calls Try.prog 73 #[.slice (some ⟨g, 0, none⟩) n c, .int .i64 i, .slice (some ⟨v, 0, none⟩) 1 1] w (InsDE base n (insD L i (x, y)) w) := by
  obtain ⟨hb, hnc, hcm, hsg⟩ := own_base2 ho
  have hl : (dcs L).length = n * 2 := by rw [dcs_length, hL]
  have h := insert_shiftD g n c i v (dcs L) x y w hi hroom (by unfold maxLen at hcm; omega) hgv hl
    (fun j u hu => by
      have hj := (List.getElem?_eq_some_iff.1 hu).1
      rw [ho.cellAt j (by omega)]
      exact hu)
    (fun j hj => own_spare2 ho j (by omega)) (fun j => ho.frozenAt j) hv0 hv1 one_dcs 49 49 2 (c * 2) hsh hsg (by omega) hf0 hf1
  refine h.mono ?_
  rintro e w' ⟨rfl, rfl⟩
  obtain ⟨z0, z1, hz⟩ := own_more2 ho hroom
  have hzd : w.drew.ownsRow base 49 2 (.slice (some ⟨g, 0, none⟩) (n + 1) c) (n + 1) (dcs L ++ [z0, z1]) := hz
  have h1 := own_setM [.int .i64 x, .int .i64 y] _ (i * 2) _ (own_setM ((dcs L).drop (i * 2)) _ ((i + 1) * 2) w.drew hzd)
  refine ⟨_, _, rfl, ?_, below_setM hb _ _ _ (below_setM hb _ _ _ (Below.refl _ _).drew)⟩
  rw [setM_eq ((dcs L).drop (i * 2)) _ _ (by simp [hl]; omega), setM_eq [.int .i64 x, .int .i64 y] _ _ (by simp [hl]; omega)] at h1
  have e : List.take (i * 2) (List.take ((i + 1) * 2) (dcs L ++ [z0, z1]) ++ List.drop (i * 2) (dcs L) ++ List.drop ((i + 1) * 2 + (List.drop (i * 2) (dcs L)).length) (dcs L ++ [z0, z1])) ++ [.int .i64 x, .int .i64 y] ++
      List.drop (i * 2 + [Value.int .i64 x, .int .i64 y].length) (List.take ((i + 1) * 2) (dcs L ++ [z0, z1]) ++ List.drop (i * 2) (dcs L) ++ List.drop ((i + 1) * 2 + (List.drop (i * 2) (dcs L)).length) (dcs L ++ [z0, z1])) = dcs (insD L i (x, y)) := by
    rw [dcs_insD]
    have hx1 : [Value.int .i64 x, .int .i64 y].length = 2 := rfl
    rw [hx1]
    generalize dcs L = M at *
    have d0 : List.drop ((i + 1) * 2 + (List.drop (i * 2) M).length) (M ++ [z0, z1]) = [] := List.drop_of_length_le (by simp [hl]; omega)
    rw [d0, List.append_nil, List.take_append_of_le_length (l₂ := [z0, z1]) (by omega)]
    have t1 : (M.take ((i + 1) * 2)).length = (i + 1) * 2 := by rw [List.length_take]; omega
    rw [List.take_append_of_le_length (by omega), List.take_take, Nat.min_eq_left (by omega), show i * 2 + 2 = (i + 1) * 2 by omega, List.drop_left' t1]
    rfl
  rw [e] at h1
  exact h1
set_option maxHeartbeats 3200000 in
set_option maxRecDepth 100000 in
/-- at the end -/
theorem insD_end (base n c v : Nat) (A : Option Addr) (L : List (Int × Int)) (x y : Int) (w : World) (ho : w.ownsRow base 49 2 (.slice A n c) n (dcs L)) (hL : L.length = n) (hn : n ≤ 1100000) (hbw : base ≤ w.heap.size)
    (hv0 : w.cell? ⟨v, 0, none⟩ = some (.int .i64 x)) (hv1 : w.cell? ⟨v, 1, none⟩ = some (.int .i64 y)) :
    Calls Try.prog 73 #[.slice A n c, .int .i64 n, .slice (some ⟨v, 0, none⟩) 1 1] w (InsDE base n (insD L n (x, y)) w) := by
  have hins : insD L n (x, y) = L ++ [(x, y)] := by simp [insD, ← hL]
  rw [hins]
  have mixed : Try.prog.follows .mixedOrders = true := by kernel_rfl
  obtain ⟨i0, hi, hz0, hz1, hz2⟩ := info_parts infoD
  have hnc := own_cap ho
  have Ho := Lib.hid ho
  clear ho hins
  have fin : ∀ v' w', w'.ownsRow base 49 2 v' (n + 1) (dcs L ++ dcs [(x, y)]) → w.grownBy w' (Value.slice A n c).ownBlock → ∃ A' c', v' = .slice A' (n + 1) c' ∧ InsDE base n (L ++ [(x, y)]) w (.returned v') w' := by
    intro v' w' ho' hg
    rw [← dcs_append] at ho'
    obtain ⟨A', c', rfl⟩ := own_form ho'
    exact ⟨A', c', rfl, A', c', rfl, ho', (Below.refl _ _).grown hg hbw (fun k hk => (Ho.out.lt k hk).1)⟩
  have Fin := Lib.hid fin
  clear fin
  have hn0 : ¬ ((n : Int) < 0) := by omega
  have hnn : (n : Int) ≤ (c : Int) := by omega
  have hsrc : ∀ j u, (dcs [(x, y)])[j]? = some u → w.cell? ((⟨v, 0, none⟩ : Addr).add j) = some u := fun j u hu => by
    rw [Addr.add_lit, Nat.zero_add]
    match j, hu with
    | 0, hu => cases hu; exact hv0
    | 1, hu => cases hu; exact hv1
  have Hsrc := Lib.hid hsrc
  clear hsrc hv0 hv1
  cases A with
  | none =>
    obtain ⟨rfl, rfl⟩ : n = 0 ∧ c = 0 := by
      rcases Ho.out.2 with ⟨h', h0⟩ | ⟨g', cap, cur, h', _⟩
      · cases h'; exact ⟨h0, rfl⟩
      · cases h'
    go_enter Try.func73, Try.ntmps73
    go_wp2_with (at_builtin; refine wpList_append_own _ rfl _ _ _ rfl base 49 i0 (.agg #[.int .i64 0, .int .i64 0]) 2 16 Try.underlying25 hi hz0 hz1 hz2 rfl (by decide) (.slice none 0 0) 0 (dcs L) rfl Ho.out ⟨v, 0, none⟩ 1 1 (dcs [(x, y)]) rfl rfl Hsrc.out one_dcs (by unfold maxLen; omega) (by omega) hbw ?_; intro v' w' h1 h2 h3; obtain ⟨A', c', rfl, hE⟩ := Fin.out v' w' h1 h2; clear h1 h2 h3)
    go_ret
    exact hE
  | some a =>
    obtain ⟨g, rfl⟩ : ∃ g, a = ⟨g, 0, none⟩ := by
      rcases Ho.out.2 with ⟨h', h0⟩ | ⟨g', cap, cur, h', _⟩
      · cases h'
      · cases h'; exact ⟨g', rfl⟩
    go_enter Try.func73, Try.ntmps73
    go_wp2_with (at_builtin; refine wpList_append_own _ rfl _ _ _ rfl base 49 i0 (.agg #[.int .i64 0, .int .i64 0]) 2 16 Try.underlying25 hi hz0 hz1 hz2 rfl (by decide) (.slice (some ⟨g, 0, none⟩) n c) n (dcs L) rfl Ho.out ⟨v, 0, none⟩ 1 1 (dcs [(x, y)]) rfl rfl Hsrc.out one_dcs (by unfold maxLen; omega) (by omega) hbw ?_; intro v' w' h1 h2 h3; obtain ⟨A', c', rfl, hE⟩ := Fin.out v' w' h1 h2; clear h1 h2 h3)
    all_goals (go_ret; exact hE)
set_option maxHeartbeats 3200000 in
set_option maxRecDepth 100000 in
/-- no room, not at the end: a new row -/
theorem insert_growD (g n c i v : Nat) (cs : List Value) (x y : Int) (w : World) (hi : i < n) (hn : n ≤ 1100000) (hnc : n ≤ c) (hroom : c < n + 1) (hcl : cs.length = n * 2)
    (hcs : ∀ j u, cs[j]? = some u → w.cell? ⟨g, j, none⟩ = some u)
    (hv0 : w.cell? ⟨v, 0, none⟩ = some (.int .i64 x)) (hv1 : w.cell? ⟨v, 1, none⟩ = some (.int .i64 y)) (h1c : ∀ u ∈ cs, u.oneCell' = true) :
    Calls Try.prog 73 #[.slice (some ⟨g, 0, none⟩) n c, .int .i64 i, .slice (some ⟨v, 0, none⟩) 1 1] w fun e w' =>
      ∃ (G : Nat) (ROW : Array Value), n + 1 ≤ G ∧ G ≤ maxLen ∧ ROW.size = G * 2 ∧ ROW.toList.take (i * 2) = cs.take (i * 2) ∧ e = .returned (.slice (some ⟨w.heap.size, 0, none⟩) (n + 1) G) ∧
      w' = (((w.alloc (.cells ROW 49)).drew.setCells w.heap.size (i * 2) [.int .i64 x, .int .i64 y]).drew).setCells w.heap.size ((i + 1) * 2) (cs.drop (i * 2)) := by
  have hvl : [Value.int .i64 x, .int .i64 y].length = 2 := rfl
  have hvo : ∀ u ∈ [Value.int .i64 x, .int .i64 y], u.oneCell' = true := fun u hu => by simp at hu; rcases hu with rfl | rfl <;> rfl
  have hvc : ∀ j u, [Value.int .i64 x, .int .i64 y][j]? = some u → w.cell? ⟨v, j, none⟩ = some u := fun j u hj => by
    match j, hj with
    | 0, hj => cases hj; exact hv0
    | 1, hj => cases hj; exact hv1
  have hvw : v < w.heap.size := block_lt_of_cell hv0
  generalize [Value.int .i64 x, .int .i64 y] = vs at *
  have mixed : Try.prog.follows .mixedOrders = true := by kernel_rfl
  obtain ⟨i0, hi0, hz0, hzs, hzb⟩ := info_parts infoD
  have hu : Try.prog.underlying 25 = some (.slice 49) := Try.underlying25
  have hui : Try.prog.underlying 3 = some (.int .i64) := Try.underlying3
  have hz2 : ¬ ((i : Int) = (n : Int)) := by omega
  have hz3 : (c : Int) < (n : Int) + 1 := by omega
  have hsz : (Try.prog.info? 49).map (·.size) = some 2 := by rw [hi0]; simp [hzs]
  have hbw : g < w.heap.size := block_lt_of_cell (hcs 0 _ (List.getElem?_eq_getElem (by omega)))
  have hkk : (n : Int) + 1 - (i : Int) = ((n + 1 - i : Nat) : Int) := by omega
  have hik : i + (n + 1 - i) = n + 1 := by omega
  have hold : (Builtin.firstCells i0.size i (.slice (some ⟨g, 0, none⟩) i c)).run Try.prog w.drew = .ok (cs.take (i * 2)).toArray w.drew := by
    rw [hzs]
    exact run_firstCells_some w.drew 2 i ⟨g, 0, none⟩ i c (cs.take (i * 2)) (by rw [List.length_take]; omega) (fun j u hj => by
      rw [Addr.add_lit, Nat.zero_add]
      rw [List.getElem?_take] at hj
      split at hj
      · exact hcs j u hj
      · cases hj)
  have hrz : ∀ ty, (Builtin.append_ #[25, 3] ty #[.slice (some ⟨g, 0, none⟩) i c, .int .i64 ((n : Int) + 1 - (i : Int))]).run Try.prog w =
      .ok (.slice (some ⟨w.heap.size, 0, none⟩) (n + 1) (grownCap w (n + 1) c 49)) (w.drew.alloc (.cells ((cs.take (i * 2)).toArray ++ Builtin.zeroCells (Value.agg #[.int .i64 0, .int .i64 0]).cells (n + 1 - i) ++ Builtin.zeroCells (Value.agg #[.int .i64 0, .int .i64 0]).cells (grownCap w (n + 1) c 49 - (n + 1))) 49)) := fun ty => by
    have h := Lib.run_append_grow_zeros w 25 3 ty 49 i0 _ .i64 .i64 hu hui hi0 hz0 (some ⟨g, 0, none⟩) i c (cs.take (i * 2)) hold (n + 1 - i) (by omega) (by omega) (by omega) (by omega) (by rw [hzb]; omega) (by rw [hzb, hik]; exact growslice_fits hroom (by omega))
    rw [hik] at h
    rw [hkk]
    exact h
  have hGn : n + 1 ≤ grownCap w (n + 1) c 49 := grownCap_ge w _ _ _
  have hGm : grownCap w (n + 1) c 49 ≤ maxLen := grownCap_le_maxLen w (n + 1) c 49 (by unfold maxLen; omega)
  generalize grownCap w (n + 1) c 49 = G at *
  have hcs2 : (Value.agg #[.int .i64 0, .int .i64 0]).cells.size = 2 := rfl
  have htl : (cs.take (i * 2)).length = i * 2 := by rw [List.length_take]; omega
  obtain ⟨ROW, hROW⟩ : ∃ ROW : Array Value, ROW = (cs.take (i * 2)).toArray ++ Builtin.zeroCells (Value.agg #[.int .i64 0, .int .i64 0]).cells (n + 1 - i) ++ Builtin.zeroCells (Value.agg #[.int .i64 0, .int .i64 0]).cells (G - (n + 1)) := ⟨_, rfl⟩
  rw [← hROW] at hrz
  have hRl : ROW.size = G * 2 := by
    rw [hROW]
    simp only [Array.size_append, size_zeroCells, hcs2, List.size_toArray, htl]
    omega
  have hRt : ROW.toList.take (i * 2) = cs.take (i * 2) := by
    rw [hROW]
    simp only [Array.toList_append, List.toList_toArray, List.append_assoc]
    rw [List.take_append_of_le_length (by omega), List.take_take, Nat.min_self]
  obtain ⟨W1, hW1⟩ : ∃ W1, W1 = w.drew.alloc (.cells ROW 49) := ⟨_, rfl⟩
  rw [← hW1] at hrz
  have hN : ∀ j, j < (n + 1) * 2 → (W1.cell? ⟨w.heap.size, j, none⟩).isSome = true := fun j hj => by
    rw [hW1, World.cell?_alloc_at (w := w.drew) ROW _ w.heap.size j rfl, Array.getElem?_eq_getElem (by omega)]; rfl
  have hNf : ∀ j, W1.frozen? ⟨w.heap.size, j, none⟩ = false := fun j => by rw [hW1]; exact World.frozen?_alloc_at (w := w.drew) ROW _ w.heap.size j rfl
  have hOb : ∀ j u, w.cell? ⟨g, j, none⟩ = some u → W1.cell? ⟨g, j, none⟩ = some u := fun j u h => by rw [hW1, World.cell?_alloc_past (w := w.drew) _ g j hbw]; exact h
  have hOv : ∀ j u, w.cell? ⟨v, j, none⟩ = some u → W1.cell? ⟨v, j, none⟩ = some u := fun j u h => by rw [hW1, World.cell?_alloc_past (w := w.drew) _ v j hvw]; exact h
  have hcpA : ∀ (W : World), (∀ x, W.cell? x = W1.cell? x) → (∀ x, W.frozen? x = W1.frozen? x) → ∀ ty dc, (Builtin.copy_ #[25, 25] ty #[.slice (some ⟨w.heap.size, i * 2, none⟩) (n + 1 - i) dc, .slice (some ⟨v, 0, none⟩) 1 1]).run Try.prog W = .ok (goInt (1 : Nat)) (W.setCells w.heap.size (i * 2) vs) := fun W hWc hWf ty dc =>
    run_copy_cells2 W _ _ ty 49 w.heap.size (i * 2) (n + 1 - i) dc ⟨v, 0, none⟩ 1 1 1 vs hu hsz (by show 1 = min 1 (n + 1 - i); omega) (by omega)
      (fun j u hj => by
        rw [Addr.add_lit, hWc, Nat.zero_add]
        exact hOv _ _ (hvc j u hj))
      (fun j hj => by rw [hWc]; exact hN _ (by omega)) (fun j hj => by rw [hWf]; exact hNf _) hvo
  have hG63 : G ≤ 9223372036854775807 := by unfold maxLen at hGm; omega
  have hGi : ¬ (G = i) := by omega
  have hGim : ¬ (G = i + 1) := by omega
  have hci : ¬ (c = i) := by omega
  have hbN : g ≠ w.heap.size := by omega
  have hdl : (cs.drop (i * 2)).length = (n - i) * 2 := by rw [List.length_drop, hcl]; omega
  have hcpB : ∀ (W : World), (∀ x, W.cell? x = (W1.setCells w.heap.size (i * 2) vs).cell? x) → (∀ x, W.frozen? x = (W1.setCells w.heap.size (i * 2) vs).frozen? x) → ∀ ty dc sc, (Builtin.copy_ #[25, 25] ty #[.slice (some ⟨w.heap.size, (i + 1) * 2, none⟩) (n - i) dc, .slice (some ⟨g, i * 2, none⟩) (n - i) sc]).run Try.prog W = .ok (goInt (n - i : Nat)) (W.setCells w.heap.size ((i + 1) * 2) (cs.drop (i * 2))) := fun W hWc hWf ty dc sc =>
    run_copy_cells2 W _ _ ty 49 w.heap.size ((i + 1) * 2) (n - i) dc ⟨g, i * 2, none⟩ (n - i) sc (n - i) (cs.drop (i * 2)) hu hsz (by show n - i = min (n - i) (n - i); omega) hdl
      (fun j u hj => by
        rw [Addr.add_lit, hWc, World.cell?_setCells_out _ _ _ _ _ (fun h _ => absurd h hbN)]
        exact hOb _ u (hcs (i * 2 + j) u (by rwa [List.getElem?_drop] at hj)))
      (fun j hj => by rw [hWc]; exact isSome_setCells w.heap.size vs (i * 2) W1 (fun t ht => hN _ (by omega)) _ (hN _ (by omega)))
      (fun j hj => by rw [hWf, World.frozen?_setCells]; exact hNf _) (fun u hu => h1c u (List.mem_of_mem_drop hu))
  subst hW1
  have hE1 : ∀ x, ((w.alloc (.cells ROW 49)).drew).cell? x = (w.drew.alloc (.cells ROW 49)).cell? x := fun x => rfl
  have hE2 : ∀ x, ((w.alloc (.cells ROW 49)).drew).frozen? x = (w.drew.alloc (.cells ROW 49)).frozen? x := fun x => rfl
  have hF1 : ∀ z, (((w.alloc (.cells ROW 49)).drew.setCells w.heap.size (i * 2) vs).drew).cell? z = ((w.drew.alloc (.cells ROW 49)).setCells w.heap.size (i * 2) vs).cell? z := fun z => rfl
  have hF2 : ∀ z, (((w.alloc (.cells ROW 49)).drew.setCells w.heap.size (i * 2) vs).drew).frozen? z = ((w.drew.alloc (.cells ROW 49)).setCells w.heap.size (i * 2) vs).frozen? z := fun z => rfl
  have hw1 : IntKind.i64.wrap ((i : Int) + 1) = (i : Int) + 1 := by rw [IntKind.wrap_i64]; omega
  have hw2 : IntKind.i64.wrap ((n : Int) + 1) = (n : Int) + 1 := by rw [IntKind.wrap_i64]; omega
  have hw3 : IntKind.i64.wrap ((n : Int) + 1 - (i : Int)) = (n : Int) + 1 - (i : Int) := by rw [IntKind.wrap_i64]; omega
  have hb1 : (0 : Int) ≤ (i : Int) + 1 := by omega
  have hin : i ≤ n := by omega
  have htn : ((i : Int) + 1).toNat = i + 1 := by omega
  have hb3 : (i : Int) ≤ (n : Int) := by omega
  have hb6 : (i : Int) ≤ (c : Int) := by omega
  have hb7 : i + 1 ≤ n + 1 := by omega
  have Hfin := Lib.hid (And.intro hGn (And.intro hGm (And.intro hRl hRt)))
  clear hkk hik hold hROW hGn hGm hRl hRt hcs hv0 hv1 h1c hN hNf hOb hOv hdl hcl htl
  go_enter Try.func73, Try.ntmps73
  go_wp2_with (first
    | (at_builtin; refine Lib.wpList_append_run _ rfl _ _ _ _ rfl _ _ rfl rfl _ _ (hrz _) ?_)
    | (at_builtin; refine wpList_copy_runI _ rfl _ _ 25 25 rfl _ _ rfl rfl (hcpA _ hE1 hE2 _ _) ?_)
    | (at_builtin; refine wpList_copy_runI _ rfl _ _ 25 25 rfl _ _ rfl rfl (hcpB _ (fun _ => rfl) (fun _ => rfl) _ _ _) ?_))
  go_region_law_o (refine step_copy_runI rfl _ _ 25 25 rfl (.slice (some ⟨w.heap.size, (i + 1) * 2, none⟩) (n - i) (G - (i + 1))) (.slice (some ⟨g, i * 2, none⟩) (n - i) (c - i)) (by simp [Act.eval, Act.put]) (by simp [Act.eval, Act.put]) (hcpB _ hF1 hF2 3 (G - (i + 1)) (c - i)) ?_)
  go_wp2
  go_ret
  exact ⟨G, ROW, Hfin.out.1, Hfin.out.2.1, Hfin.out.2.2.1, Hfin.out.2.2.2, rfl, rfl⟩
theorem own_newD {w : World} {base n G : Nat} (R : Array Value) (hb : base ≤ w.heap.size) (hG : R.size = G * 2) (hn : n ≤ G) (hm : G ≤ maxLen) :
    (w.alloc (.cells R 49)).ownsRow base 49 2 (.slice (some ⟨w.heap.size, 0, none⟩) n G) n (R.toList.take (n * 2)) :=
  ⟨by rw [List.length_take, Array.length_toList, hG]; omega, .inr ⟨w.heap.size, G, R, rfl, hb, heap_alloc_new w _, hn, hm, hG, rfl⟩⟩
theorem insD_grow (base g n c i v : Nat) (L : List (Int × Int)) (x y : Int) (w : World) (ho : w.ownsRow base 49 2 (.slice (some ⟨g, 0, none⟩) n c) n (dcs L)) (hL : L.length = n) (hi : i < n) (hroom : c < n + 1) (hn : n ≤ 1100000) (hbw : base ≤ w.heap.size)
    (hv0 : w.cell? ⟨v, 0, none⟩ = some (.int .i64 x)) (hv1 : w.cell? ⟨v, 1, none⟩ = some (.int .i64 y)) :
    Calls Try.prog 73 #[.slice (some ⟨g, 0, none⟩) n c, .int .i64 i, .slice (some ⟨v, 0, none⟩) 1 1] w (InsDE base n (insD L i (x, y)) w) := by
  obtain ⟨hb, hnc, hcm, hsg⟩ := own_base2 ho
  have hl : (dcs L).length = n * 2 := by rw [dcs_length, hL]
  have h := insert_growD g n c i v (dcs L) x y w hi hn hnc hroom hl
    (fun j u hu => by
      have hj := (List.getElem?_eq_some_iff.1 hu).1
      rw [ho.cellAt j (by omega)]
      exact hu) hv0 hv1 one_dcs
  refine h.mono ?_
  rintro e w' ⟨G, ROW, h1, h2, h3, h4, rfl, rfl⟩
  have o1 := own_newD (w := w) (base := base) (n := n + 1) ROW hbw h3 h1 h2
  have b1 : Below base w (w.alloc (.cells ROW 49)) := (Below.refl _ _).alloc hbw _
  generalize w.alloc (.cells ROW 49) = wn at *
  have o2 : (wn.drew.setCells w.heap.size (i * 2) [.int .i64 x, .int .i64 y]).drew.ownsRow base 49 2 (.slice (some ⟨w.heap.size, 0, none⟩) (n + 1) G) (n + 1) _ := own_setM [.int .i64 x, .int .i64 y] _ (i * 2) wn.drew o1
  have h5 := own_setM ((dcs L).drop (i * 2)) _ ((i + 1) * 2) _ o2
  refine ⟨_, _, rfl, ?_, below_setM hbw _ _ _ (below_setM hbw _ _ _ b1.drew).drew⟩
  have hrl : (ROW.toList.take ((n + 1) * 2)).length = (n + 1) * 2 := by rw [List.length_take, Array.length_toList, h3]; omega
  have hrt : (ROW.toList.take ((n + 1) * 2)).take (i * 2) = (dcs L).take (i * 2) := by rw [List.take_take, Nat.min_eq_left (by omega), h4]
  generalize ROW.toList.take ((n + 1) * 2) = R at *
  rw [setM_eq [.int .i64 x, .int .i64 y] _ _ (by rw [hrl]; simp; omega), hrt, setM_eq ((dcs L).drop (i * 2)) _ _ (by simp [hl, hrl]; omega)] at h5
  have hx1 : [Value.int .i64 x, .int .i64 y].length = 2 := rfl
  rw [hx1] at h5
  have e : List.take ((i + 1) * 2) (List.take (i * 2) (dcs L) ++ [.int .i64 x, .int .i64 y] ++ List.drop (i * 2 + 2) R) ++ List.drop (i * 2) (dcs L) ++
      List.drop ((i + 1) * 2 + (List.drop (i * 2) (dcs L)).length) (List.take (i * 2) (dcs L) ++ [.int .i64 x, .int .i64 y] ++ List.drop (i * 2 + 2) R) = dcs (insD L i (x, y)) := by
    rw [dcs_insD]
    generalize dcs L = M at *
    have t0 : (M.take (i * 2) ++ [Value.int .i64 x, .int .i64 y]).length = (i + 1) * 2 := by rw [List.length_append, List.length_take, hx1]; omega
    have d0 : List.drop ((i + 1) * 2 + (List.drop (i * 2) M).length) (List.take (i * 2) M ++ [Value.int .i64 x, .int .i64 y] ++ List.drop (i * 2 + 2) R) = [] :=
      List.drop_of_length_le (by rw [List.length_append, t0, List.length_drop, List.length_drop, hl, hrl]; omega)
    rw [List.take_left' t0, d0, List.append_nil]
    rfl
  rw [e] at h5
  exact h5
/-- slices.Insert of one diagonal, anywhere -/
theorem impl_InsertD (base n c i v : Nat) (A : Option Addr) (L : List (Int × Int)) (x y : Int) (w : World) (ho : w.ownsRow base 49 2 (.slice A n c) n (dcs L)) (hL : L.length = n) (hi : i ≤ n) (hn : n ≤ 1100000) (hbw : base ≤ w.heap.size)
    (hv0 : w.cell? ⟨v, 0, none⟩ = some (.int .i64 x)) (hv1 : w.cell? ⟨v, 1, none⟩ = some (.int .i64 y)) (hgv : ∀ k, (Value.slice A n c).ownBlock = some k → k ≠ v) (hsh : w.shape? v = some (49, 2)) (hf0 : w.frozen? ⟨v, 0, none⟩ = false) (hf1 : w.frozen? ⟨v, 2, none⟩ = false) :
    Calls Try.prog 73 #[.slice A n c, .int .i64 i, .slice (some ⟨v, 0, none⟩) 1 1] w (InsDE base n (insD L i (x, y)) w) := by
  by_cases hin : i < n
  · obtain ⟨g, rfl⟩ : ∃ g, A = some ⟨g, 0, none⟩ := by
      rcases ho.2 with ⟨_, h0⟩ | ⟨g', cap, cur, h', _⟩
      · omega
      · cases h'; exact ⟨g', rfl⟩
    by_cases hroom : n + 1 ≤ c
    · exact insD_room base g n c i v L x y w ho hL hin hroom hv0 hv1 (fun e => hgv g rfl e.symm) hsh hf0 hf1
    · exact insD_grow base g n c i v L x y w ho hL hin (by omega) hn hbw hv0 hv1
  · obtain rfl : i = n := by omega
    exact insD_end base i c v A L x y w ho hL hn hbw hv0 hv1

/-- the same, where the diagonal's block is known as a whole -/
theorem insD_heap (base n c i v : Nat) (A : Option Addr) (L : List (Int × Int)) (x y : Int) (w : World) (ho : w.ownsRow base 49 2 (.slice A n c) n (dcs L)) (hL : L.length = n) (hi : i ≤ n) (hn : n ≤ 1100000) (hbw : base ≤ w.heap.size)
    (hh : w.heap[v]? = some (.cells #[.int .i64 x, .int .i64 y] 49 (0, 0))) (hgv : ∀ k, (Value.slice A n c).ownBlock = some k → k ≠ v) :
    Calls Try.prog 73 #[.slice A n c, .int .i64 i, .slice (some ⟨v, 0, none⟩) 1 1] w (InsDE base n (insD L i (x, y)) w) := by
  refine impl_InsertD base n c i v A L x y w ho hL hi hn hbw ?_ ?_ hgv ?_ ?_ ?_
  · rw [cell_of_row w v 0 _ _ _ hh]; rfl
  · rw [cell_of_row w v 1 _ _ _ hh]; rfl
  · unfold World.shape?; rw [hh]; rfl
  · unfold World.frozen?; dsimp only; rw [hh]; rfl
  · unfold World.frozen?; dsimp only; rw [hh]; rfl

/-- append of a slice onto a row of the call's own, as AppS has it, of greater lengths -/
theorem wpList_appendN2 {ops : Array Oper} {rest : List Oper} {o : Oper} {a : Act} {Q : Exit → Act → World → Prop} (w : World) (hgd : o.guard = none) (s x : Operand) (ho : o.op = .call { callee := .builtin .append, args := #[s, x], argTypes := #[25, 25] })
    (base : Nat) (v : Value) (L : List (Int × Int)) (hs : a.eval s = v) (hown : w.ownsRow base 49 2 v L.length (dcs L)) (ad : Addr) (m c : Nat) (r : List (Int × Int)) (hx : a.eval x = .slice (some ad) m c) (hm : r.length = m)
    (hr : ∀ j u, (dcs r)[j]? = some u → w.cell? (ad.add j) = some u) (hlen : L.length ≤ 2000000) (hlr : m ≤ 2000000) (hbase : base ≤ w.heap.size)
    (h : ∀ A' c' w', w'.ownsRow base 49 2 (.slice A' (L.length + m) c') (L.length + m) (dcs (L ++ r)) → w.grownBy w' v.ownBlock → wpList Try.prog ops Q rest (a.put o.dst (.slice A' (L.length + m) c')) w') : wpList Try.prog ops Q (o :: rest) a w := by
  obtain ⟨i0, hi, hz0, hz1, hz2⟩ := info_parts infoD
  have fin : ∀ v' w', w'.ownsRow base 49 2 v' (L.length + m) (dcs L ++ dcs r) → w.grownBy w' v.ownBlock → wpList Try.prog ops Q rest (a.put o.dst v') w' := by
    intro v' w' ho' hg
    rw [← dcs_append] at ho'
    obtain ⟨A', c', rfl⟩ := own_form ho'
    exact h A' c' w' ho' hg
  exact wpList_append_own w hgd s x 25 ho base 49 i0 (.agg #[.int .i64 0, .int .i64 0]) 2 16 Try.underlying25 hi hz0 hz1 hz2 rfl (by decide) v L.length (dcs L) hs hown ad m c (dcs r) hx (by rw [dcs_length, hm]) hr one_dcs
    (by unfold maxLen; omega) (by omega) hbase (fun v' w' h1 h2 _ => fin v' w' h1 h2)

set_option maxRecDepth 100000 in
set_option maxHeartbeats 800000 in
/-- slices.Clone of diagonals, of any length -/
theorem slices_CloneDx (A : Option Addr) (n c B : Nat) (l : List (Int × Int)) (w : World) (hl : l.length = n) (h : SlD w B A l) (hB : B ≤ w.heap.size) (hn : n ≤ 1100000) :
    Calls Try.prog 74 #[.slice A n c] w (GivD w l) := by
  cases A with
  | none =>
    obtain rfl : n = 0 := by
      by_cases h0 : 0 < l.length
      · obtain ⟨b, off, e, _⟩ := h h0
        cases e
      · omega
    have he : ∀ w : World, (binOp .eql 25 (.slice none 0 c) (.slice none 0 0)).run Try.prog w = .ok (.bool true) w := fun w => Lib.run_eql_slice_nil w 25 49 none 0 c 0 0 Try.underlying25
    obtain rfl : l = [] := List.eq_nil_of_length_eq_zero hl
    clear h hl
    have hres : GivD w [] (.returned (.slice none 0 0)) w := ⟨none, 0, rfl, World.ownsRow_nil _ _ _ _, Below.refl _ _⟩
    go_enter Try.func74, Try.ntmps74
    go_wp2
    go_ret
    exact hres
  | some ad =>
    have he : ∀ w : World, (binOp .eql 25 (.slice (some ad) n c) (.slice none 0 0)).run Try.prog w = .ok (.bool false) w := fun w => Lib.run_eql_slice_nil w 25 49 (some ad) n c 0 0 Try.underlying25
    have own0 := own_made w (B := w.heap.size) (Nat.le_refl _)
    have hs : SlD (w.alloc (.cells #[] 49)) B (some ad) l := h.below (((Below.refl _ _).alloc (Nat.le_refl _) _).mono hB)
    have hs2 : ∀ j u, (dcs l)[j]? = some u → (w.alloc (.cells #[] 49)).cell? (ad.add j) = some u := by
      by_cases h0 : 0 < l.length
      · obtain ⟨b, off, e, _⟩ := h h0
        cases e
        exact hs.news
      · obtain rfl : l = [] := List.eq_nil_of_length_eq_zero (by omega)
        intro j u hu
        simp [dcs] at hu
    have Hl := Lib.hid hl
    have Hs := Lib.hid hs2
    clear h hl hs hs2
    go_enter Try.func74, Try.ntmps74
    go_wp2_with (at_builtin; refine wpList_appendN2 _ rfl _ _ rfl w.heap.size (.slice (some ⟨w.heap.size, 0, none⟩) 0 0) [] rfl own0 ad n c l rfl Hl.out Hs.out (by decide) (by omega) (by simp) ?_; intro A' c' w1 hown1 hgrow1)
    have hb1 : Below w.heap.size w w1 := ((Below.refl w.heap.size w).alloc (Nat.le_refl _) (.cells #[] 49)).grown hgrow1 (by simp) (above_blk (Nat.le_refl _))
    rw [List.nil_append] at hown1
    have e0 : ([] : List (Int × Int)).length + n = n := by simp
    rw [e0] at hown1
    have hres : GivD w l (.returned (.slice A' n c')) w1 := ⟨A', c', by rw [Hl.out], by rw [Hl.out]; exact hown1, hb1⟩
    have Hres := Lib.hid hres
    clear hres hown1 hgrow1 hb1 own0 e0
    try simp only [List.length_nil, Nat.zero_add]
    go_wp2
    go_ret
    exact Hres.out
end Go.Proofs.Ytlnnnjnboknoeaa
