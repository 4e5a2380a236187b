/- The first one of the turned ones, and of a class: the program's. -/
import Derived.Test.YtbpaaoeefcebeabLstI
import Derived.Test.YtbpaaoeefcebeabMirrorPolygonW
namespace Go.Proofs.Ytbpaaoeefcebeab
set_option linter.unusedVariables false
open Go.RowKit

/-- the first k of m rows told, the others empty -/
def filR (f : Nat → List (Int × Int)) (m k : Nat) : List (List (Int × Int)) := (List.range m).map fun i => if i < k then f i else []
theorem filR_length (f : Nat → List (Int × Int)) (m k : Nat) : (filR f m k).length = m := by simp [filR]
theorem filR_get (f : Nat → List (Int × Int)) (m k i : Nat) (h : i < (filR f m k).length) : (filR f m k)[i] = if i < k then f i else [] := by simp [filR]
theorem filR_set (f : Nat → List (Int × Int)) (m k : Nat) : (filR f m k).set k (f k) = filR f m (k + 1) := by
  apply List.ext_getElem
  · simp [filR]
  · intro i h1 h2
    rw [List.getElem_set, filR_get f m (k + 1) i h2]
    by_cases e : k = i
    · subst e; simp
    · rw [if_neg e, filR_get]
      by_cases h : i < k
      · rw [if_pos h, if_pos (by omega)]
      · rw [if_neg h, if_neg (by omega)]
theorem filR_zero (f : Nat → List (Int × Int)) (m : Nat) : filR f m 0 = List.replicate m [] := by
  unfold filR
  apply List.ext_getElem
  · simp
  · intro i h1 h2; simp
theorem filR_row (f : Nat → List (Int × Int)) (m j : Nat) (h : j < m) : rowD (filR f m m) j = f j := by
  unfold rowD filR
  simp [h]

set_option maxRecDepth 100000 in
set_option maxHeartbeats 3200000 in
theorem impl_allTurned (n : Nat) (A : Option Addr) (c B q : Nat) (l : List (Int × Int)) (w : World) (hl : l.length = q) (h : SlD w B A l) (hB : B ≤ w.heap.size) (ht : triB n l = true) :
    Calls Try.prog 107 #[.int .i64 n, .slice A q c] w (GivDD w (filR (trn n l) n n) n) := by
  have hn := tri_n ht
  have n1 : 1 ≤ n := by omega
  have n12 : n ≤ 12 := by omega
  have H := Lib.hid h
  have Hl := Lib.hid hl
  have HT := Lib.hid ht
  obtain ⟨i0', hii, hz0, hz1, hz3⟩ := info_parts infoSlD
  have hbytes : i0'.bytes * n ≤ 281474976710656 := by rw [hz3]; omega
  have hmax : n ≤ maxLen := by unfold maxLen; omega
  clear h hl ht hn
  go_enter Try.func107, Try.ntmps107
  go_wp2_with (at_make; refine wpList_make_full _ rfl _ _ _ rfl w.heap.size 26 i0' (.slice none 0 0) 1 Try.underlying37 hii hz0 hz1 _ _ _ _ n rfl rfl rfl rfl hbytes hmax (Nat.le_refl _) ?_; intro w3 hown3 hgrow3)
  have hb3 : Below w.heap.size w w3 := (Below.refl _ _).grown hgrow3 (Nat.le_refl _) (fun _ e => by cases e)
  rw [zerosDD] at hown3
  have hO3 := OwnDD.zeros hown3
  rw [← filR_zero (trn n l) n] at hO3
  have HO3 := Lib.hid hO3
  have Hb3 := Lib.hid hb3
  clear hown3 hgrow3 hb3 hO3 hii hz0 hz1 hz3 hbytes hmax
  go_wp2
  go_loopw [6, 11] (fun _ i wr => ∃ (k : Nat) (rs : List Value), k ≤ n ∧ i = .int .i64 k ∧ OwnDD wr w.heap.size (some ⟨w.heap.size, 0, none⟩) n rs (filR (trn n l) n k) ∧ Below w.heap.size w wr) (fun _ i _ => n - (intOf i).toNat)
  case atStart => exact ⟨0, _, Nat.zero_le _, rfl, HO3.out, Hb3.out⟩
  case round =>
    clear HO3 Hb3
    obtain ⟨k, rs, hk, rfl, ho, hb⟩ := hrel
    have hsz := hb.size
    by_cases hlt : k < n
    · have i0 : (0 : Int) ≤ (k : Int) := by omega
      have i1 : (k : Int) < (n : Int) := by omega
      have Hset := Lib.hid (filR_set (trn n l) n k)
      have Hfl := Lib.hid (filR_length (trn n l) n k)
      have hcall := impl_turned n (k : Int) A c B l wr n1 n12 ⟨i0, i1⟩ HT.out (H.out.below (hb.mono hB)) (Nat.le_trans hB hsz)
      rw [Hl.out, show sortD (mvL (turnF (n : Int) (k : Int)) l) = trn n l k from rfl] at hcall
      have Hcall := Lib.hid hcall
      have Ho := Lib.hid ho
      have Hb := Lib.hid hb
      clear ho hb hcall
      go_wp2_with fail
      refine Hcall.out.mono ?_
      rintro e w2 ⟨A7, c7, rfl, o7, b7⟩
      have hO7 := Ho.out.kept b7
      have hbk5 := Ho.out.blk
      have hb7 := below_kept Hb.out (Nat.le_refl _) b7
      have hnb := o7.lt
      have o7' := o7.mono Hb.out.size
      obtain ⟨hO8, hg8⟩ := OwnDD.store hO7 (t := k) (by rw [Hfl.out]; exact hlt) o7' (fun j hj hjt k hk e => by
        have h1 := (hnb k hk).1
        have h2 := hbk5 j hj k e.symm
        omega)
      rw [Hset.out] at hO8
      have hc := (hO7.outer (by rw [Hfl.out]; omega))
      obtain ⟨g', hge, _, _, hcell⟩ := hc
      have hgg : g' = w.heap.size := by injection hge with e; injection e with e1; exact e1.symm
      subst hgg
      have r0 := hcell k (by rw [Hfl.out]; exact hlt)
      have hfro := hO7.2.1.frozenAt k
      have hb8 := below_grown hb7 hg8 (Nat.le_refl _) (fun k hk => by injection hk with hk; omega)
      have HO8 := Lib.hid hO8
      have Hb8 := Lib.hid hb8
      generalize rvD rs k = rv at *
      generalize (trn n l k).length = rl at *
      clear hO7 hbk5 hb7 hnb o7 o7' hO8 hg8 hge hcell hb8 b7
      go_wp2
      go_roundw
      case rel => exact ⟨k + 1, _, by omega, by go_num, HO8.out, Hb8.out⟩
      case measure => simp [intOf]; omega
    · obtain rfl : k = n := by omega
      have hE : GivDD w (filR (trn k l) k k) k (.returned (.slice (some ⟨w.heap.size, 0, none⟩) k k)) wr := ⟨_, k, rs, rfl, ho, hb⟩
      have HE := Lib.hid hE
      clear hE ho hb
      go_wp2
      go_ret
      exact HE.out

theorem minF_congr {f g : Nat → List (Int × Int)} : ∀ {k : Nat}, (∀ j, j ≤ k → f j = g j) → minF f k = minF g k
  | 0, h => h 0 (Nat.le_refl _)
  | k + 1, h => by
    have ih := minF_congr (k := k) (fun j hj => h j (by omega))
    unfold minF
    rw [ih, h (k + 1) (Nat.le_refl _)]

set_option maxRecDepth 100000 in
set_option maxHeartbeats 3200000 in
theorem slices_MinFuncDD (g m c q : Nat) (rv : Nat → Value) (f : Nat → List (Int × Int)) (w : World) (h1 : 1 ≤ m) (hm : m ≤ 1000) (hc : ∀ j, j < m → w.cell? ⟨g, j, none⟩ = some (rv j)) (hg : g < w.heap.size)
    (hv : ∀ j, j < m → ∃ Aj cj, rv j = .slice Aj q cj ∧ SlD w w.heap.size Aj (f j)) (hq : ∀ j, (f j).length = q) (hq2 : q ≤ 1000) :
    Calls Try.prog 106 #[.slice (some ⟨g, 0, none⟩) m c, .func (.func 62) #[] #[]] w fun e w' => (∃ j, j < m ∧ e = .returned (rv j) ∧ f j = minF f (m - 1)) ∧ Below w.heap.size w w' := by
  have Hc := Lib.hid hc
  have Hv := Lib.hid hv
  have Hq := Lib.hid hq
  have c0 := hc 0 (by omega)
  have m1 : (1 : Int) ≤ (m : Int) := by omega
  clear hc hv hq
  obtain ⟨A0, ca0, hv0, hs0⟩ := Hv.out 0 (by omega)
  rw [hv0] at c0
  go_enter Try.func106, Try.ntmps106
  go_wp2
  go_loopw [5, 6] (fun v i wr => ∃ (k j : Nat) (Aj : Option Addr) (cj : Nat), 1 ≤ k ∧ k ≤ m ∧ j < m ∧ i = .int .i64 k ∧ v = .slice Aj q cj ∧ rv j = .slice Aj q cj ∧ f j = minF f (k - 1) ∧ Below w.heap.size w wr) (fun _ i _ => m - (intOf i).toNat)
  case atStart => exact ⟨1, 0, A0, ca0, Nat.le_refl _, h1, by omega, rfl, rfl, hv0, rfl, Below.refl _ _⟩
  case round =>
    clear hs0 c0 hv0
    obtain ⟨k, j, Aj, cj, hk1, hk, hj, rfl, rfl, hrv, hmin, hb⟩ := hrel
    have hsz := hb.size
    by_cases hlt : k < m
    · obtain ⟨Ak, ck, hvk, hsk⟩ := Hv.out k hlt
      obtain ⟨Aj', cj', hvj, hsj⟩ := Hv.out j hj
      have hjj : Aj' = Aj := by rw [hrv] at hvj; injection hvj with e1; exact e1.symm
      subst hjj
      have hck : wr.cell? ⟨g, k, none⟩ = some (.slice Ak q ck) := by rw [← hvk, hb.cell (p := ⟨g, k, none⟩) hg]; exact Hc.out k hlt
      have i0 : (0 : Int) ≤ (k : Int) := by omega
      have i1 : (k : Int) < (m : Int) := by omega
      have hcall := impl_compareLists Ak Aj' q q ck cj w.heap.size w.heap.size (f k) (f j) wr (hsk.below hb) (hsj.below hb) (Hq.out k) (Hq.out j) hsz hsz (by omega) (by omega)
      have hlex := cmpL_lex (a := f k) (b := f j) (by rw [Hq.out, Hq.out])
      rw [hmin] at hlex
      have hmin2 := hmin
      rw [hmin] at hcall
      have Hcall := Lib.hid hcall
      have Hb := Lib.hid hb
      have Hlex := Lib.hid hlex
      have Hmin := Lib.hid hmin
      have Hrv := Lib.hid hrv
      have Hvk := Lib.hid hvk
      have gg : g < wr.heap.size := by omega
      clear hcall hb hsk hsj hlex hmin hmin2 hrv hvk hvj
      go_wp2_with fail
      refine Hcall.out.mono ?_
      rintro e w3 ⟨rfl, b3⟩
      have B3 := Lib.hid (below_kept Hb.out (Nat.le_refl _) b3)
      have hck3 : w3.cell? ⟨g, k, none⟩ = some (.slice Ak q ck) := (b3.cell (p := ⟨g, k, none⟩) gg).trans hck
      clear b3
      cases hx : lexB (f k) (minF f (k - 1))
      · have hz : ¬ cmpL (f k) (minF f (k - 1)) < 0 := by
          have := Hlex.out
          rw [hx] at this
          simpa using this
        have hE : minF f (k + 1 - 1) = minF f (k - 1) := by
          obtain ⟨t, rfl⟩ : ∃ t, k = t + 1 := ⟨k - 1, by omega⟩
          exact minF_no hx
        have HE := Lib.hid hE
        generalize cmpL (f k) (minF f (k - 1)) = z at *
        clear hE hx
        go_wp2
        go_roundw
        case rel => exact ⟨k + 1, j, Aj', cj, by omega, by omega, hj, by go_num, rfl, Hrv.out, by rw [HE.out]; exact Hmin.out, B3.out⟩
        case measure => simp [intOf]; omega
      · have hz : cmpL (f k) (minF f (k - 1)) < 0 := by
          have := Hlex.out
          rw [hx] at this
          simpa using this
        have hE : minF f (k + 1 - 1) = f k := by
          obtain ⟨t, rfl⟩ : ∃ t, k = t + 1 := ⟨k - 1, by omega⟩
          exact minF_yes hx
        have HE := Lib.hid hE
        generalize cmpL (f k) (minF f (k - 1)) = z at *
        clear hE hx
        go_wp2
        go_roundw
        case rel => exact ⟨k + 1, k, Ak, ck, by omega, by omega, hlt, by go_num, rfl, Hvk.out, HE.out.symm, B3.out⟩
        case measure => simp [intOf]; omega
    · obtain rfl : k = m := by omega
      have hE : (∃ j, j < k ∧ Ending.returned (Value.slice Aj q cj) = .returned (rv j) ∧ f j = minF f (k - 1)) ∧ Below w.heap.size w wr := ⟨⟨j, hj, by rw [hrv], hmin⟩, hb⟩
      have HE := Lib.hid hE
      clear hE hrv hmin hb
      go_wp2
      go_ret
      exact HE.out

set_option maxRecDepth 100000 in
set_option maxHeartbeats 1600000 in
theorem impl_leastTurned (n : Nat) (A : Option Addr) (c B q : Nat) (l : List (Int × Int)) (w : World) (hl : l.length = q) (h : SlD w B A l) (hB : B ≤ w.heap.size) (ht : triB n l = true) :
    Calls Try.prog 68 #[.int .i64 n, .slice A q c] w (GivD w (leastL n l)) := by
  have hn := tri_n ht
  have n1 : 1 ≤ n := by omega
  have n12 : n ≤ 12 := by omega
  have q9 : q ≤ 9 := by omega
  have Hcall := Lib.hid (impl_allTurned n A c B q l w hl h hB ht)
  have Hl := Lib.hid hl
  clear hl h ht hn
  go_enter Try.func68, Try.ntmps68
  go_wp2_with fail
  refine Hcall.out.mono ?_
  rintro e w1 ⟨A1, c1, rs, rfl, o1, b1⟩
  have hfl := filR_length (trn n l) n n
  have hq : ∀ j, (trn n l j).length = q := fun j => by rw [trn_length, Hl.out]
  obtain ⟨g, rfl, hg1, hg2, hcell⟩ := o1.outer (by rw [hfl]; exact n1)
  have hmin := slices_MinFuncDD g n c1 q (rvD rs) (trn n l) w1 n1 (by omega) (fun j hj => hcell j (by rw [hfl]; exact hj)) hg2
    (fun j hj => by
      have ho := o1.2.2.1 j (by rw [hfl]; exact hj)
      rw [filR_row _ _ _ hj, hq] at ho
      obtain ⟨Aj, cj, hv⟩ := own_form ho
      rw [hv] at ho
      exact ⟨Aj, cj, hv, SlD.of_own ho⟩) hq (by omega)
  have HO := Lib.hid o1
  have Hmin := Lib.hid hmin
  have Hfl := Lib.hid hfl
  have Hq := Lib.hid hq
  have B1 := Lib.hid b1
  clear hcell hmin hfl hq o1 b1 Hcall
  go_wp2_with fail
  refine Hmin.out.mono ?_
  rintro e w2 ⟨⟨j, hj, rfl, hf⟩, b2⟩
  have ho := HO.out.2.2.1 j (by rw [Hfl.out]; exact hj)
  rw [filR_row _ _ _ hj, hf, show minF (trn n l) (n - 1) = leastL n l from rfl] at ho
  have ho2 := own_kept ho b2
  obtain ⟨Aj, cj, hv⟩ := own_form ho2
  rw [hv] at ho2 ⊢
  have hres : GivD w (leastL n l) (.returned (.slice Aj (leastL n l).length cj)) w2 := ⟨Aj, cj, rfl, ho2, below_kept B1.out (Nat.le_refl _) b2⟩
  have Hres := Lib.hid hres
  generalize (leastL n l).length = rl at *
  clear hres ho ho2 hv b2 hf
  go_wp2
  go_ret
  exact Hres.out

set_option maxRecDepth 100000 in
set_option maxHeartbeats 1600000 in
theorem impl_leastOfClass (n : Nat) (A : Option Addr) (c B q : Nat) (l : List (Int × Int)) (w : World) (hl : l.length = q) (h : SlD w B A l) (hB : B ≤ w.heap.size) (ht : triB n l = true) :
    Calls Try.prog 70 #[.int .i64 n, .slice A q c] w (GivD w (classL n l)) := by
  have hn := tri_n ht
  have q9 : q ≤ 9 := by omega
  have H := Lib.hid h
  have Hl := Lib.hid hl
  have HT := Lib.hid ht
  have HT2 := Lib.hid (mir_tri (tri_of ht)).toB
  have Hle := Lib.hid (show (leastL n l).length = q by rw [leastL_length, hl])
  have Hml := Lib.hid (show (mirL n l).length = q by rw [mirL_length, hl])
  have Hlm := Lib.hid (show (leastL n (mirL n l)).length = q by rw [leastL_length, mirL_length, hl])
  have Hcl := Lib.hid (show (classL n l).length = q by rw [classL_length, hl])
  have hcall := impl_leastTurned n A c B q l w hl h hB ht
  have Hcall := Lib.hid hcall
  clear hl h ht hn hcall
  go_enter Try.func70, Try.ntmps70
  go_wp2_with fail
  refine Hcall.out.mono ?_
  rintro e w1 ⟨A1, c1, rfl, o1, b1⟩
  rw [Hle.out] at o1 ⊢
  have O1 := Lib.hid o1
  have B1 := Lib.hid b1
  clear o1 b1 Hcall
  have Hc2 := Lib.hid (impl_mirrored n A c B q l w1 Hl.out HT.out (H.out.below (B1.out.mono hB)) (Nat.le_trans hB B1.out.size))
  go_wp2_with fail
  refine Hc2.out.mono ?_
  rintro e w2 ⟨A2, c2, rfl, o2, b2⟩
  rw [show sortD (mvL (mirrF n) l) = mirL n l from rfl, Hml.out] at o2 ⊢
  have O1' := Lib.hid (own_kept O1.out b2)
  have B2 := Lib.hid (below_kept B1.out (Nat.le_refl _) b2)
  have O2 := Lib.hid o2
  clear o2 b2 Hc2 O1
  have Hc3 := Lib.hid (impl_leastTurned n A2 c2 w2.heap.size q (mirL n l) w2 Hml.out (SlD.of_own O2.out) (Nat.le_refl _) HT2.out)
  go_wp2_with fail
  refine Hc3.out.mono ?_
  rintro e w3 ⟨A3, c3, rfl, o3, b3⟩
  rw [Hlm.out] at o3 ⊢
  have hlt1 := O1'.out.lt
  have hlt3 := o3.lt
  have o1 := own_kept O1'.out b3
  have z2 := B2.out.size
  have o3' := o3.mono z2
  have B3 := Lib.hid (below_kept B2.out (Nat.le_refl _) b3)
  have z3 := B3.out.size
  clear b3 Hc3 O2 O1'
  have P1 := Lib.hid (o1.alloc (.cells #[.slice A1 q c1, .slice A3 q c3] 26))
  have P3 := Lib.hid (o3'.alloc (.cells #[.slice A1 q c1, .slice A3 q c3] 26))
  have B4 := Lib.hid (B3.out.alloc z3 (.cells #[.slice A1 q c1, .slice A3 q c3] 26))
  have hs1 := SlD.of_own P1.out
  have hs3 := SlD.of_own P3.out
  have hmin := slices_MinFuncDD w3.heap.size 2 2 q (fun j => if j = 0 then .slice A1 q c1 else .slice A3 q c3) (fun j => if j = 0 then leastL n l else leastL n (mirL n l)) (w3.alloc (.cells #[.slice A1 q c1, .slice A3 q c3] 26)) (by omega) (by omega)
    (fun j hj => by
      match j, hj with
      | 0, _ => exact World.cell?_alloc_new w3 _ _ 0
      | 1, _ => exact World.cell?_alloc_new w3 _ _ 1) (by simp)
    (fun j hj => by
      match j, hj with
      | 0, _ => exact ⟨A1, c1, rfl, hs1⟩
      | 1, _ => exact ⟨A3, c3, rfl, hs3⟩) (fun j => by
        show (if j = 0 then leastL n l else leastL n (mirL n l)).length = q
        split
        · exact Hle.out
        · exact Hlm.out) (by omega)
  have Hmin := Lib.hid hmin
  clear hmin hs1 hs3 o1 o3 o3' hlt1 hlt3
  go_wp2_with fail
  refine Hmin.out.mono ?_
  rintro e w5 ⟨⟨j, hj, rfl, hf⟩, b5⟩
  have hcl : minF (fun j => if j = 0 then leastL n l else leastL n (mirL n l)) (2 - 1) = classL n l := by
    show minF _ (0 + 1) = _
    unfold minF classL
    rfl
  rw [hcl] at hf
  have B5 := Lib.hid (below_kept B4.out (Nat.le_refl _) b5)
  have P1' := own_kept P1.out b5
  have P3' := own_kept P3.out b5
  have hres : GivD w (classL n l) (.returned (if j = 0 then .slice A1 q c1 else .slice A3 q c3)) w5 := by
    match j, hj with
    | 0, _ =>
      have e : classL n l = leastL n l := hf.symm
      rw [← e] at P1'
      exact ⟨A1, c1, by rw [Hcl.out]; rfl, by rw [Hcl.out]; exact P1', B5.out⟩
    | 1, _ =>
      have e : classL n l = leastL n (mirL n l) := hf.symm
      rw [← e] at P3'
      exact ⟨A3, c3, by rw [Hcl.out]; rfl, by rw [Hcl.out]; exact P3', B5.out⟩
  obtain ⟨v, hv⟩ : ∃ v, (if j = 0 then Value.slice A1 q c1 else Value.slice A3 q c3) = v := ⟨_, rfl⟩
  rw [hv] at hres
  have Hres := Lib.hid hres
  show _
  simp only [hv]
  clear hres P1' P3' hf hv hcl b5
  go_wp2
  go_ret
  exact Hres.out
end Go.Proofs.Ytbpaaoeefcebeab
