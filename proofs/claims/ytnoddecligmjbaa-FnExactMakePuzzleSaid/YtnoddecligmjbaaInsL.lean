/- slices.Insert of one number into a row of the call's own: out of the library's contracts, at this seat's numbers. -/
import Derived.Shelf.Spec.SlicesInsert
import Derived.Shelf.Spec.SlicesInsertGrow
import Derived.Test.YtnoddecligmjbaaLawM
import Derived.Test.YtnoddecligmjbaaAppI
namespace Go.Proofs.Ytnoddecligmjbaa
set_option linter.unusedVariables false
open Go.RowKit

def insR : Go.Shelf.Ren := ⟨fun | 21 => 158 | 27 => 180 | 28 => 181 | 35 => 195 | 39 => 207 | n => n,
  fun | 22 => 22 | 3 => 3 | 4 => 4 | 0 => 0 | n => n, fun | n => n⟩
theorem insL : Go.Proofs.Lays2.n21 Try.prog insR := {
  mixed := by kernel_rfl
  f21 := Try.func158.trans (congrArg some (by kernel_rfl))
  f27 := Try.func180.trans (congrArg some (by kernel_rfl))
  f28 := Try.func181.trans (congrArg some (by kernel_rfl))
  f35 := Try.func195.trans (congrArg some (by kernel_rfl))
  f39 := Try.func207.trans (congrArg some (by kernel_rfl))
  t0 := Try.underlying0
  a0 := Try.isAgg0
  z0 := Try.sizeOf0
  v0 := Try.zeroValue0
  t3 := Try.underlying3
  a3 := Try.isAgg3
  z3 := Try.sizeOf3
  v3 := Try.zeroValue3
  t4 := Try.underlying4
  a4 := Try.isAgg4
  z4 := Try.sizeOf4
  v4 := Try.zeroValue4
  t22 := Try.underlying22
  a22 := Try.isAgg22
  z22 := Try.sizeOf22
  v22 := Try.zeroValue22
  i3 := by kernel_rfl }

/-- cells that are set one after the other -/
def setL (xs : List Value) : Nat → List Value → List Value
  | _, [] => xs
  | o, v :: vs => setL (xs.set o v) (o + 1) vs
theorem setL_length : ∀ (vs : List Value) (xs : List Value) (o : Nat), (setL xs o vs).length = xs.length := by
  intro vs
  induction vs with
  | nil => intro xs o; rfl
  | cons v vs ih => intro xs o; show (setL (xs.set o v) (o + 1) vs).length = _; rw [ih, List.length_set]
theorem setL_eq : ∀ (vs : List Value) (xs : List Value) (o : Nat), o + vs.length ≤ xs.length → setL xs o vs = xs.take o ++ vs ++ xs.drop (o + vs.length) := by
  intro vs
  induction vs with
  | nil => intro xs o _; simp [setL]
  | cons v vs ih =>
    intro xs o h
    rw [List.length_cons] at h
    show setL (xs.set o v) (o + 1) vs = _
    rw [ih _ _ (by rw [List.length_set]; omega)]
    have e1 : (xs.set o v).take (o + 1) = xs.take o ++ [v] := by
      rw [List.take_succ_eq_append_getElem (by rw [List.length_set]; omega), List.take_set_of_le (Nat.le_refl _)]
      simp
    have e2 : (xs.set o v).drop (o + 1 + vs.length) = xs.drop (o + (v :: vs).length) := by
      rw [List.drop_set_of_lt (by omega), List.length_cons]
      congr 1
      omega
    rw [e1, e2]
    simp
theorem own_setCells {base e g n c : Nat} : ∀ (vs : List Value) (xs : List Value) (o : Nat) (w : World), w.ownsRow base e 1 (.slice (some ⟨g, 0, none⟩) n c) n xs → (w.setCells g o vs).ownsRow base e 1 (.slice (some ⟨g, 0, none⟩) n c) n (setL xs o vs) := by
  intro vs
  induction vs with
  | nil => intro xs o w h; exact h
  | cons v vs ih => intro xs o w h; exact ih _ _ _ (h.stored o v).1
theorem below_setCells {B g : Nat} {w0 : World} (hg : B ≤ g) : ∀ (vs : List Value) (o : Nat) (w : World), Below B w0 w → Below B w0 (w.setCells g o vs) := by
  intro vs
  induction vs with
  | nil => intro o w h; exact h
  | cons v vs ih => intro o w h; exact ih _ _ (h.setCell (p := ⟨g, o, none⟩) hg v)
theorem own_more {w : World} {base e g n c : Nat} {xs : List Value} (h : w.ownsRow base e 1 (.slice (some ⟨g, 0, none⟩) n c) n xs) (hc : n + 1 ≤ c) : ∃ x, w.ownsRow base e 1 (.slice (some ⟨g, 0, none⟩) (n + 1) c) (n + 1) (xs ++ [x]) := by
  rcases h.2 with ⟨h', _⟩ | ⟨g', cap, cur, h', hb, hh, _, hcm, hs, ht⟩
  · cases h'
  · cases h'
    have hl : n < cur.toList.length := by rw [Array.length_toList]; omega
    refine ⟨cur.toList[n], by rw [List.length_append, h.1]; simp, .inr ⟨g, c, cur, rfl, hb, hh, hc, hcm, hs, ?_⟩⟩
    rw [Nat.mul_one, List.take_succ_eq_append_getElem hl]
    rw [Nat.mul_one] at ht
    rw [ht]
theorem own_base {w : World} {base e g n c : Nat} {xs : List Value} (h : w.ownsRow base e 1 (.slice (some ⟨g, 0, none⟩) n c) n xs) : base ≤ g ∧ n ≤ c ∧ c ≤ maxLen ∧ w.shape? g = some (e, c) := by
  rcases h.2 with ⟨h', _⟩ | ⟨g', cap, cur, h', hb, hh, hn, hcm, hs, ht⟩
  · cases h'
  · cases h'
    refine ⟨hb, hn, hcm, ?_⟩
    unfold World.shape?
    rw [hh]
    simp [hs]
theorem own_spare {w : World} {base e g n c : Nat} {xs : List Value} (h : w.ownsRow base e 1 (.slice (some ⟨g, 0, none⟩) n c) n xs) (j : Nat) (hj : j < c) : (w.cell? ⟨g, j, none⟩).isSome = true := by
  rcases h.2 with ⟨h', _⟩ | ⟨g', cap, cur, h', hb, hh, hn, hcm, hs, ht⟩
  · cases h'
  · cases h'
    rw [cell_of_row w g j cur e (0, 0) hh]
    simp
    omega
/-- the list with a number put in -/
def insAt (L : List Int) (i : Nat) (x : Int) : List Int := L.take i ++ [x] ++ L.drop i
theorem ics_take' (L : List Int) (i : Nat) : (ics L).take i = ics (L.take i) := by simp [ics]
theorem ics_drop' (L : List Int) (i : Nat) : (ics L).drop i = ics (L.drop i) := by simp [ics]

def InsE (base n : Nat) (L : List Int) (w : World) (e : Ending) (w' : World) : Prop :=
  ∃ A' c', e = .returned (.slice A' (n + 1) c') ∧ w'.ownsRow base 3 1 (.slice A' (n + 1) c') (n + 1) (ics L) ∧ Below base w w'
theorem ins_room (base g n c i v : Nat) (L : List Int) (x : Int) (w : World) (ho : w.ownsRow base 3 1 (.slice (some ⟨g, 0, none⟩) n c) n (ics L)) (hL : L.length = n) (hi : i < n) (hroom : n + 1 ≤ c)
    (hv : w.cell? ⟨v, 0, none⟩ = some (.int .i64 x)) (hgv : v ≠ g) (hsh : w.shape? v = some (3, 1)) (hf0 : w.frozen? ⟨v, 0, none⟩ = false) (hf1 : w.frozen? ⟨v, 1, none⟩ = false) :
    Calls Try.prog 158 #[.slice (some ⟨g, 0, none⟩) n c, .int .i64 i, .slice (some ⟨v, 0, none⟩) 1 1] w (InsE base n (insAt L i x) w) := by
  obtain ⟨hb, hnc, hcm, hsg⟩ := own_base ho
  have h := Any2.slices_Insert_int_shift insL g 0 n c i v 0 1 1 (ics L) (ics [x]) w hi (by omega) hroom (by unfold maxLen at hcm; omega) hgv (by rw [ics_length, hL]) rfl
    (fun j u hu => by
      have hj := (List.getElem?_eq_some_iff.1 hu).1
      rw [ics_length, hL] at hj
      rw [Nat.zero_add, ho.cellAt j (by omega)]
      exact hu)
    (fun j hj => by rw [Nat.zero_add]; exact own_spare ho j (by omega)) (fun j hj => by rw [Nat.zero_add]; exact ho.frozenAt j)
    (fun j u hu => by
      have hj : j = 0 := by
        have := (List.getElem?_eq_some_iff.1 hu).1
        simp [ics] at this
        omega
      subst hj
      rw [hv]
      exact hu)
    one_ics one_ics 3 3 1 c hsh hsg (by omega) hf0 hf1
  refine h.mono ?_
  rintro e w' ⟨rfl, rfl⟩
  obtain ⟨z, hz⟩ := own_more ho hroom
  have hzd : w.drew.ownsRow base 3 1 (.slice (some ⟨g, 0, none⟩) (n + 1) c) (n + 1) (ics L ++ [z]) := hz
  have h1 := own_setCells (ics [x]) _ (0 + i) _ (own_setCells ((ics L).drop i) _ (0 + (i + 1)) w.drew hzd)
  refine ⟨_, _, rfl, ?_, below_setCells hb _ _ _ (below_setCells hb _ _ _ (Below.refl _ _).drew)⟩
  have hl : (ics L).length = n := by rw [ics_length, hL]
  rw [setL_eq ((ics L).drop i) _ _ (by simp [hl]; omega), setL_eq (ics [x]) _ _ (by simp [ics, hL]; omega)] at h1
  have e : List.take (0 + i) (List.take (0 + (i + 1)) (ics L ++ [z]) ++ List.drop i (ics L) ++ List.drop (0 + (i + 1) + (List.drop i (ics L)).length) (ics L ++ [z])) ++ ics [x] ++
      List.drop (0 + i + (ics [x]).length) (List.take (0 + (i + 1)) (ics L ++ [z]) ++ List.drop i (ics L) ++ List.drop (0 + (i + 1) + (List.drop i (ics L)).length) (ics L ++ [z])) = ics (insAt L i x) := by
    have ei : ics (insAt L i x) = (ics L).take i ++ ics [x] ++ (ics L).drop i := by simp [insAt, ics]
    rw [ei]
    have hx1 : (ics [x]).length = 1 := rfl
    rw [hx1]
    generalize ics L = M at *
    have d0 : List.drop (0 + (i + 1) + (List.drop i M).length) (M ++ [z]) = [] := List.drop_of_length_le (by simp [hl]; omega)
    rw [d0, List.append_nil, Nat.zero_add, Nat.zero_add, List.take_append_of_le_length (l₂ := [z]) (by omega)]
    have t1 : (M.take (i + 1)).length = i + 1 := by rw [List.length_take]; omega
    rw [List.take_append_of_le_length (by omega), List.take_take, Nat.min_eq_left (by omega), List.drop_left' t1]
  rw [e] at h1
  exact h1
theorem ins_end_room (base g n c v : Nat) (L : List Int) (x : Int) (w : World) (ho : w.ownsRow base 3 1 (.slice (some ⟨g, 0, none⟩) n c) n (ics L)) (hL : L.length = n) (hroom : n + 1 ≤ c)
    (hv : w.cell? ⟨v, 0, none⟩ = some (.int .i64 x)) :
    Calls Try.prog 158 #[.slice (some ⟨g, 0, none⟩) n c, .int .i64 n, .slice (some ⟨v, 0, none⟩) 1 1] w (InsE base n (insAt L n x) w) := by
  obtain ⟨hb, hnc, hcm, hsg⟩ := own_base ho
  have h := Any2.slices_Insert_int_end_room insL g 0 n c v 0 1 1 (ics [x]) w (by omega) hroom (by unfold maxLen at hcm; omega) rfl
    (fun j hj => by rw [Nat.zero_add]; exact own_spare ho _ (by omega)) (fun j hj => by rw [Nat.zero_add]; exact ho.frozenAt _)
    (fun j u hu => by
      have hj : j = 0 := by
        have := (List.getElem?_eq_some_iff.1 hu).1
        simp [ics] at this
        omega
      subst hj
      rw [hv]
      exact hu)
    one_ics
  refine h.mono ?_
  rintro e w' ⟨rfl, rfl⟩
  obtain ⟨z, hz⟩ := own_more ho hroom
  have h1 := own_setCells (ics [x]) _ (0 + n) _ hz
  refine ⟨_, _, rfl, ?_, below_setCells hb _ _ _ (Below.refl _ _)⟩
  have hl : (ics L).length = n := by rw [ics_length, hL]
  rw [setL_eq (ics [x]) _ _ (by simp [ics, hL])] at h1
  have e : List.take (0 + n) (ics L ++ [z]) ++ ics [x] ++ List.drop (0 + n + (ics [x]).length) (ics L ++ [z]) = ics (insAt L n x) := by
    have ei : ics (insAt L n x) = (ics L).take n ++ ics [x] ++ (ics L).drop n := by simp [insAt, ics]
    rw [ei]
    have hx1 : (ics [x]).length = 1 := rfl
    rw [hx1]
    generalize ics L = M at *
    rw [Nat.zero_add, List.take_append_of_le_length (by omega), List.drop_of_length_le (by simp [hl]), List.drop_of_length_le (by omega)]
  rw [e] at h1
  exact h1
theorem zero_cells1 (k : Nat) : (Builtin.zeroCells (Value.int .i64 0).cells k).toList = List.replicate k (Value.int .i64 0) := by
  have e : (Value.int .i64 0).cells = #[Value.int .i64 0] := rfl
  rw [e]
  unfold Builtin.zeroCells
  apply List.ext_getElem?
  intro i
  by_cases hi : i < k
  · simp [hi, Nat.mod_one]
  · simp [hi]
theorem own_new {w : World} {base n G : Nat} (M : List Value) (R : Array Value) (hM : M.length = n) (hb : base ≤ w.heap.size) (hG : M.length + R.size = G) (hm : G ≤ maxLen) :
    (w.alloc (.cells (M.toArray ++ R) 3)).ownsRow base 3 1 (.slice (some ⟨w.heap.size, 0, none⟩) n G) n M := by
  refine ⟨by omega, .inr ⟨w.heap.size, G, _, rfl, hb, heap_alloc_new w _, by omega, hm, by simp; omega, ?_⟩⟩
  simp [← hM]
theorem ins_end_grow (base g n c v : Nat) (L : List Int) (x : Int) (w : World) (ho : w.ownsRow base 3 1 (.slice (some ⟨g, 0, none⟩) n c) n (ics L)) (hL : L.length = n) (hroom : c < n + 1) (hn : n ≤ 1000) (hbw : base ≤ w.heap.size)
    (hv : w.cell? ⟨v, 0, none⟩ = some (.int .i64 x)) :
    Calls Try.prog 158 #[.slice (some ⟨g, 0, none⟩) n c, .int .i64 n, .slice (some ⟨v, 0, none⟩) 1 1] w (InsE base n (insAt L n x) w) := by
  obtain ⟨hb, hnc, hcm, hsg⟩ := own_base ho
  have h := Any2.slices_Insert_int_end_grow insL (some ⟨g, 0, none⟩) n c v 0 1 1 (ics L) (ics [x]) w (by omega) hnc hroom (by omega) (by rw [ics_length, hL]) rfl (fun h => by cases h)
    (fun a ha j u hu => by
      cases ha
      have hj := (List.getElem?_eq_some_iff.1 hu).1
      rw [ics_length, hL] at hj
      rw [Addr.add_lit, Nat.zero_add, ho.cellAt j (by omega)]
      exact hu)
    (fun j u hu => by
      have hj : j = 0 := by
        have := (List.getElem?_eq_some_iff.1 hu).1
        simp [ics] at this
        omega
      subst hj
      rw [hv]
      exact hu)
    one_ics
  refine h.mono ?_
  rintro e w' ⟨rfl, rfl⟩
  have hG := grownCap_ge w (n + 1) c (insR.t 3)
  have hM := grownCap_le_maxLen w (n + 1) c (insR.t 3) (by unfold maxLen; omega)
  generalize grownCap w (n + 1) c (insR.t 3) = G at *
  have e1 : ics L ++ ics [x] = ics (insAt L n x) := by
    have hl : L.take n = L := List.take_of_length_le (by omega)
    have hd : L.drop n = [] := List.drop_of_length_le (by omega)
    simp [insAt, ics, hl, hd]
  rw [e1]
  have hlen : (ics (insAt L n x)).length = n + 1 := by rw [← e1, List.length_append, ics_length, hL]; rfl
  refine ⟨_, _, rfl, own_new (w := w.drew) _ _ hlen hbw ?_ hM, ((Below.refl _ _).drew).alloc hbw _⟩
  have hz := congrArg List.length (zero_cells1 (G - (n + 1)))
  rw [Array.length_toList, List.length_replicate] at hz
  rw [hlen, hz]
  omega
theorem ins_grow (base g n c i v : Nat) (L : List Int) (x : Int) (w : World) (ho : w.ownsRow base 3 1 (.slice (some ⟨g, 0, none⟩) n c) n (ics L)) (hL : L.length = n) (hi : i < n) (hroom : c < n + 1) (hn : n ≤ 1000) (hbw : base ≤ w.heap.size)
    (hv : w.cell? ⟨v, 0, none⟩ = some (.int .i64 x)) :
    Calls Try.prog 158 #[.slice (some ⟨g, 0, none⟩) n c, .int .i64 i, .slice (some ⟨v, 0, none⟩) 1 1] w (InsE base n (insAt L i x) w) := by
  obtain ⟨hb, hnc, hcm, hsg⟩ := own_base ho
  have h := Any2.slices_Insert_int_grow insL g 0 n c i v 0 1 1 (ics L) (ics [x]) w hi (by omega) hnc hroom (by omega) (by rw [ics_length, hL]) rfl
    (fun j u hu => by
      have hj := (List.getElem?_eq_some_iff.1 hu).1
      rw [ics_length, hL] at hj
      rw [Nat.zero_add, ho.cellAt j (by omega)]
      exact hu)
    (fun j u hu => by
      have hj : j = 0 := by
        have := (List.getElem?_eq_some_iff.1 hu).1
        simp [ics] at this
        omega
      subst hj
      rw [hv]
      exact hu)
    one_ics one_ics
  refine h.mono ?_
  rintro e w' ⟨rfl, rfl⟩
  rw [show insR.t 3 = 3 from rfl]
  have hG := grownCap_ge w (n + 1) c 3
  have hM := grownCap_le_maxLen w (n + 1) c 3 (by unfold maxLen; omega)
  generalize grownCap w (n + 1) c 3 = G at *
  have hl : (ics L).length = n := by rw [ics_length, hL]
  have hz := congrArg List.length (zero_cells1 (G - (n + 1)))
  rw [Array.length_toList, List.length_replicate] at hz
  have ea : (List.take i (ics L)).toArray ++ Builtin.zeroCells (Value.int .i64 0).cells (n + 1 - i) = (List.take i (ics L) ++ List.replicate (n + 1 - i) (Value.int .i64 0)).toArray := by
    apply Array.ext'
    rw [Array.toList_append, zero_cells1]
  rw [ea]
  have hlen : (List.take i (ics L) ++ List.replicate (n + 1 - i) (Value.int .i64 0)).length = n + 1 := by simp [hl]; omega
  have o1 := own_new (w := w) (base := base) (G := G) (List.take i (ics L) ++ List.replicate (n + 1 - i) (Value.int .i64 0)) (Builtin.zeroCells (Value.int .i64 0).cells (G - (n + 1))) hlen hbw (by rw [hlen, hz]; omega) hM
  have b1 : Below base w (w.alloc (.cells ((List.take i (ics L) ++ List.replicate (n + 1 - i) (Value.int .i64 0)).toArray ++ Builtin.zeroCells (Value.int .i64 0).cells (G - (n + 1))) 3)) := (Below.refl _ _).alloc hbw _
  generalize w.alloc (.cells ((List.take i (ics L) ++ List.replicate (n + 1 - i) (Value.int .i64 0)).toArray ++ Builtin.zeroCells (Value.int .i64 0).cells (G - (n + 1))) 3) = wn at *
  have o2 : (wn.drew.setCells w.heap.size i (ics [x])).drew.ownsRow base 3 1 (.slice (some ⟨w.heap.size, 0, none⟩) (n + 1) G) (n + 1) _ := own_setCells (ics [x]) _ i wn.drew o1
  have h1 := own_setCells ((ics L).drop i) _ (i + 1) _ o2
  refine ⟨_, _, rfl, ?_, below_setCells hbw _ _ _ (below_setCells hbw _ _ _ b1.drew).drew⟩
  rw [setL_eq (ics [x]) _ _ (by rw [hlen]; simp [ics]; omega), setL_eq ((ics L).drop i) _ _ (by simp [ics, hL]; omega)] at h1
  have e : List.take (i + 1) (List.take i (List.take i (ics L) ++ List.replicate (n + 1 - i) (Value.int IntKind.i64 0)) ++ ics [x] ++ List.drop (i + (ics [x]).length) (List.take i (ics L) ++ List.replicate (n + 1 - i) (Value.int IntKind.i64 0))) ++ List.drop i (ics L) ++
      List.drop (i + 1 + (List.drop i (ics L)).length) (List.take i (List.take i (ics L) ++ List.replicate (n + 1 - i) (Value.int IntKind.i64 0)) ++ ics [x] ++ List.drop (i + (ics [x]).length) (List.take i (ics L) ++ List.replicate (n + 1 - i) (Value.int IntKind.i64 0))) = ics (insAt L i x) := by
    have ei : ics (insAt L i x) = (ics L).take i ++ ics [x] ++ (ics L).drop i := by simp [insAt, ics]
    rw [ei]
    have hx1 : (ics [x]).length = 1 := rfl
    generalize ics [x] = X at *
    generalize ics L = M at *
    have t0 : (M.take i).length = i := by rw [List.length_take]; omega
    have t1 : (M.take i ++ X).length = i + 1 := by rw [List.length_append, t0, hx1]
    rw [List.take_left' t0, List.take_left' t1]
    rw [List.drop_of_length_le (i := i + 1 + (List.drop i M).length) (by simp [hx1, hl]; omega), List.append_nil]
  rw [e] at h1
  exact h1
theorem impl_Insert1 (base g n c i v : Nat) (L : List Int) (x : Int) (w : World) (ho : w.ownsRow base 3 1 (.slice (some ⟨g, 0, none⟩) n c) n (ics L)) (hL : L.length = n) (hi : i ≤ n) (hn : n ≤ 1000) (hbw : base ≤ w.heap.size)
    (hv : w.cell? ⟨v, 0, none⟩ = some (.int .i64 x)) (hgv : v ≠ g) (hsh : w.shape? v = some (3, 1)) (hf0 : w.frozen? ⟨v, 0, none⟩ = false) (hf1 : w.frozen? ⟨v, 1, none⟩ = false) :
    Calls Try.prog 158 #[.slice (some ⟨g, 0, none⟩) n c, .int .i64 i, .slice (some ⟨v, 0, none⟩) 1 1] w (InsE base n (insAt L i x) w) := by
  by_cases hroom : n + 1 ≤ c
  · by_cases hin : i < n
    · exact ins_room base g n c i v L x w ho hL hin hroom hv hgv hsh hf0 hf1
    · obtain rfl : i = n := by omega
      exact ins_end_room base g i c v L x w ho hL hroom hv
  · by_cases hin : i < n
    · exact ins_grow base g n c i v L x w ho hL hin (by omega) hn hbw hv
    · obtain rfl : i = n := by omega
      exact ins_end_grow base g i c v L x w ho hL (by omega) hn hbw hv
end Go.Proofs.Ytnoddecligmjbaa
