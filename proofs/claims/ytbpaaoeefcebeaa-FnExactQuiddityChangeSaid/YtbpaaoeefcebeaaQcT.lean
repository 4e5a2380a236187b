/- QuiddityChange: the model's and the program's contract. -/
import Derived.Test.YtbpaaoeefcebeaaQcM
import Derived.Test.YtbpaaoeefcebeaaQuid
import Derived.Test.YtbpaaoeefcebeaaFliU
import Derived.Test.YtbpaaoeefcebeaaFliO
import Derived.Test.YtbpaaoeefcebeaaKept2
import Derived.Deep.DeepCutAuto
namespace Go.Proofs.Ytbpaaoeefcebeaa
set_option linter.unusedVariables false
open Go.RowKit

def GivQuid (w : World) (q : Nat) (l : List (Int × Int)) (e : Ending) (w' : World) : Prop :=
  ∃ A c, e = .returned (.slice A q c) ∧ w'.ownsRow w.heap.size 3 1 (.slice A q c) q (ics (quidF q l)) ∧ Below w.heap.size w w'
theorem spec_poQ (q : Nat) (A : Option Addr) (c B : Nat) (l : List (Int × Int)) (w : World) (h : SlD w B A l) (hB : B ≤ w.heap.size) (T : Tri q l) :
    Calls Try.prog 82 #[.int .i64 q, .slice A l.length c] w (GivQuid w q l) := (spec_poQuiddity q A c B l w h hB T.toB).mono fun e w' h => by
  obtain ⟨A', c', rfl, ho, hb⟩ := h
  simp only [Int.toNat_natCast] at ho ⊢
  rw [quidF_length] at ho ⊢
  exact ⟨A', c', rfl, ho, hb⟩
theorem ne_fwd {w w' : World} {b e size n e' size' n' : Nat} {v v2 : Value} {xs ys : List Value} (h : w.ownsRow b e size v n xs) (h' : w'.ownsRow w.heap.size e' size' v2 n' ys) : ∀ k, v.ownBlock = some k → some k ≠ v2.ownBlock := fun k hk e => by
  have := (h.lt k hk).2
  have := (h'.lt k e.symm).1
  omega
theorem ne_rev {w w' : World} {b e size n e' size' n' : Nat} {v v2 : Value} {xs ys : List Value} (h : w.ownsRow b e size v n xs) (h' : w'.ownsRow w.heap.size e' size' v2 n' ys) : ∀ k, v2.ownBlock = some k → some k ≠ v.ownBlock := fun k hk e => by
  have := (h.lt k e.symm).2
  have := (h'.lt k hk).1
  omega
theorem retI_none {w w' : World} (hb : Below w.heap.size w w') : RetI w [] false (.returned (.tuple #[.slice none 0 0, .bool false])) w' := ⟨none, 0, rfl, World.ownsRow_nil _ _ _ _, hb⟩

set_option maxRecDepth 100000 in
set_option maxHeartbeats 3200000 in
theorem spec_QuiddityChange (n : Int) (A : Option Addr) (c B : Nat) (l : List (Int × Int)) (x y : Int) (w : World) (h : SlD w B A l) (hB : B ≤ w.heap.size) (hl : l.length ≤ 1048576) (hlc : l.length ≤ c) :
    Calls Try.prog 48 #[.int .i64 n, .slice A l.length c, .agg #[.int .i64 x, .int .i64 y]] w (RetI w (qcR n l (x, y)) (triB n l && decide ((x, y) ∈ l))) := by
  have H := Lib.hid h
  clear h
  have hba : Below w.heap.size w (w.alloc (.cells #[.int .i64 x, .int .i64 y] 40)) := (Below.refl _ _).alloc (Nat.le_refl _) _
  have Hba := Lib.hid hba
  clear hba
  go_enter Try.func48, Try.ntmps48
  go_wp2_with fail
  refine (spec_poGood n A c B l _ (H.out.below (Hba.out.mono hB)) (Nat.le_trans hB Hba.out.size) hl hlc).mono ?_
  rintro e w1 ⟨rfl, hb1⟩
  have Hd1 := Lib.hid (below_kept Hba.out (Nat.le_refl _) hb1)
  have q0 : w1.cell? ⟨w.heap.size, 0, none⟩ = some (.int .i64 x) := cell_kept hb1 (by simp [go_sem])
  have q1 : w1.cell? ⟨w.heap.size, 1, none⟩ = some (.int .i64 y) := cell_kept hb1 (by simp [go_sem])
  clear hb1
  have hno : (triB n l && decide ((x, y) ∈ l)) = false → ∀ w', Below w.heap.size w w' → RetI w (qcR n l (x, y)) (triB n l && decide ((x, y) ∈ l)) (.returned (.tuple #[.slice none 0 0, .bool false])) w' := fun e0 w' hb => by
    rw [qcR_no e0, e0]
    exact retI_none hb
  have Hno := Lib.hid hno
  clear hno
  cases ht : triB n l
  · have Hres := Lib.hid (Hno.out (by rw [ht]; rfl) _ Hd1.out)
    go_wp2
    go_ret2
    exact Hres.out
  · have T := tri_of ht
    have HT := Lib.hid T
    obtain ⟨m, rfl⟩ := Int.eq_ofNat_of_zero_le (show 0 ≤ n by have := T.n3; omega)
    have hl12 : l.length ≤ 12 := by have := T.len; have := T.n12; omega
    have hm12 : m ≤ 12 := by have := T.n12; omega
    have HtB := Lib.hid ht
    clear T ht
    by_cases hm : (x, y) ∈ l
    · have e1 : decide ((x, y) ∈ l) = true := by simpa using hm
      have e0 : (triB m l && decide ((x, y) ∈ l)) = true := by rw [HtB.out, e1]; rfl
      have hE := qcR_yes e0
      simp only [Int.toNat_natCast] at hE
      have HE := Lib.hid hE
      have E0 := Lib.hid e0
      have Hm := Lib.hid hm
      have E1 := Lib.hid e1
      clear hE e0 hm e1 Hno
      go_wp2_with fail
      refine (spec_flIn A l.length c B l x y true _ (H.out.below (Hd1.out.mono hB)) rfl (Nat.le_trans hB Hd1.out.size) (by omega) E1.out).mono ?_
      rintro e wb ⟨rfl, hb2⟩
      have Hd2 := Lib.hid (below_kept Hd1.out (Nat.le_refl _) hb2)
      have P0 := Lib.hid (cell_kept hb2 q0)
      have P1 := Lib.hid (cell_kept hb2 q1)
      have HS := Lib.hid (H.out.below (Hd2.out.mono hB))
      have hBb : B ≤ wb.heap.size := Nat.le_trans hB Hd2.out.size
      have hfl : (flipL m l (x, y)).length = l.length := flip_length HT.out Hm.out
      have Hfl := Lib.hid hfl
      have HFT := Lib.hid (flip_tri HT.out Hm.out)
      have hsa := subK_all HT.out Hm.out
      have Hsa := Lib.hid hsa
      have BS := Lib.hid (threeOf (w' := wb.drew) P0.out P1.out (Below.refl _ _).drew)
      clear hb2 q0 q1 hfl hsa Hd1
      go_upto_region 3 with fail
      go_cut [8, 9] (fun s8 s9 wx => ∃ A1 c1 A2 c2, s8 = .slice A1 m c1 ∧ s9 = .slice A2 m c2 ∧ wx.ownsRow wb.heap.size 3 1 (.slice A1 m c1) m (ics (quidF m l)) ∧ wx.ownsRow wb.heap.size 3 1 (.slice A2 m c2) m (ics (quidF m (flipL m l (x, y)))) ∧
          (∀ k, (Value.slice A1 m c1).ownBlock = some k → some k ≠ (Value.slice A2 m c2).ownBlock) ∧ Below wb.heap.size wb wx)
      case first =>
        go_region_held3 (fun w' => w'.cell? ⟨w.heap.size, 0, none⟩ = some (.int .i64 x) ∧ w'.cell? ⟨w.heap.size, 1, none⟩ = some (.int .i64 y) ∧ Below wb.heap.size wb w')
          (first
            | with_reducible assumption
            | with_reducible exact BS.out
            | with_reducible exact kept2 (by assumption) hb1 (Nat.le_refl _))
          (first
            | (go_at_call 66; refine (spec_flMake m A l.length c B l x y _ (HS.out.below ((three3 (by assumption)).mono hBb)) rfl (Nat.le_trans hBb (three3 (by assumption)).size) HT.out Hm.out).mono ?_; rintro e w3 ⟨A9, c9, rfl, hF', hb1⟩; (first | (replace hQ := own_kept hQ hb1) | skip); (have hF := hF'); (have HZ := Lib.hid (three3 (kept2 (by assumption) hb1 (Nat.le_refl _)))))
            | (go_at_call 82; (with_reducible refine (spec_poQ m A c B l _ (HS.out.below ((three3 (by assumption)).mono hBb)) (Nat.le_trans hBb (three3 (by assumption)).size) HT.out).mono ?_); rintro e w3 ⟨A7, c7, rfl, hQ', hb1⟩; (first | (have NE := Lib.hid (ne_rev hO hQ')) | skip); (first | (replace hF := own_kept hF hb1) | skip); (first | (replace hO := own_kept hO hb1) | skip); (have hQ := hQ'.mono (three3 (by assumption)).size); (have HZ := Lib.hid (three3 (kept2 (by assumption) hb1 (Nat.le_refl _)))))
            | (go_at_call 82; (with_reducible refine (spec_poQ m _ _ _ (flipL m l (x, y)) _ (SlD.of_own hF) (Nat.le_refl _) HFT.out).mono ?_); rintro e w3 ⟨A8, c8, rfl, hO', hb1⟩; (first | (have NE := Lib.hid (ne_fwd hQ hO')) | skip); (first | (replace hQ := own_kept hQ hb1) | skip); (have hO := hO'.mono (three3 (by assumption)).size); (have HZ := Lib.hid (three3 (kept2 (by assumption) hb1 (Nat.le_refl _))))))
        all_goals go_wp2_with fail
        all_goals go_meet
        all_goals exact ⟨_, _, _, _, rfl, rfl, hQ, hO, NE.out, HZ.out⟩
      case rest =>
        obtain ⟨A1, c1, A2, c2, rfl, rfl, hQ, hO, hNE, hd⟩ := hcut
        have hq3 : 3 ≤ m := by have := HT.out.n3; omega
        obtain ⟨g2, cap2, hv2, hgb2, _⟩ := hO.form (by omega)
        obtain ⟨g1, cap1, hv1, hgb1, _⟩ := hQ.form (by omega)
        obtain ⟨eA2, eC2⟩ : A2 = some ⟨g2, 0, none⟩ ∧ c2 = cap2 := by injection hv2 with e1 e2 e3; exact ⟨e1, e3⟩
        obtain ⟨eA1, eC1⟩ : A1 = some ⟨g1, 0, none⟩ ∧ c1 = cap1 := by injection hv1 with e1 e2 e3; exact ⟨e1, e3⟩
        subst eA2 eC2 eA1 eC1
        have hg12 : g1 ≠ g2 := fun e => hNE g1 rfl (by rw [e]; rfl)
        have hfin : ∀ w', Below wb.heap.size wb w' → w'.ownsRow wb.heap.size 3 1 (.slice (some ⟨g2, 0, none⟩) m c2) m (ics (subK (quidF m (flipL m l (x, y))) (quidF m l) m)) → RetI w (qcR m l (x, y)) (triB m l && decide ((x, y) ∈ l)) (.returned (.tuple #[.slice (some ⟨g2, 0, none⟩) m c2, .bool true])) w' := fun w' hb ho => by
          rw [HE.out, E0.out]
          rw [Hsa.out] at ho
          exact ⟨some ⟨g2, 0, none⟩, c2, by rw [chL_length], by rw [chL_length]; exact ho.mono Hd2.out.size, below_kept Hd2.out (Nat.le_refl _) (hb)⟩
        have Hfin := Lib.hid hfin
        have hQs := fun j => quid_small (n := m) (l := l) hl12 j
        have hOs := fun j => quid_small (n := m) (l := flipL m l (x, y)) (by rw [Hfl.out]; exact hl12) j
        have hOl := quidF_length m (flipL m l (x, y))
        have hQl := quidF_length m l
        generalize quidF m (flipL m l (x, y)) = O at *
        generalize quidF m l = Q at *
        rw [← subK_zero O Q] at hO
        have HO := Lib.hid hO
        have HQ := Lib.hid hQ
        have Hd := Lib.hid hd
        have HOs := Lib.hid hOs
        have HQs := Lib.hid hQs
        have HOl := Lib.hid hOl
        have HQl := Lib.hid hQl
        clear hO hQ hd hOs hQs hOl hQl hfin hNE BS Hsa HE
        go_wp2
        go_loopw [10, 32] (fun _ i wr => ∃ k : Nat, k ≤ m ∧ i = .int .i64 k ∧ wr.ownsRow wb.heap.size 3 1 (.slice (some ⟨g2, 0, none⟩) m c2) m (ics (subK O Q k)) ∧ wr.ownsRow wb.heap.size 3 1 (.slice (some ⟨g1, 0, none⟩) m c1) m (ics Q) ∧ Below wb.heap.size wb wr) (fun _ i _ => m - (intOf i).toNat)
        case atStart => exact ⟨0, Nat.zero_le _, rfl, HO.out, HQ.out, Hd.out⟩
        case round =>
          obtain ⟨k, hk, rfl, ho, hq, hb⟩ := hrel
          by_cases hlt : k < m
          · have i0 : (0 : Int) ≤ (k : Int) := by omega
            have i1 : (k : Int) < (m : Int) := by omega
            have c0 : wr.cell? ⟨g2, k, none⟩ = some (.int .i64 ((subK O Q k).getD k 0)) := by rw [ho.cellAt k (by omega), ics_get _ _ (by rw [subK_length, HOl.out]; exact hlt)]
            have c3 : wr.cell? ⟨g1, k, none⟩ = some (.int .i64 (Q.getD k 0)) := by rw [hq.cellAt k (by omega), ics_get _ _ (by rw [HQl.out]; exact hlt)]
            have f0 := ho.frozenAt k
            obtain ⟨hs1, hs2⟩ := ho.stored k (.int .i64 ((subK O Q k).getD k 0 - Q.getD k 0))
            rw [ics_set, subK_set (by rw [HOl.out]; exact hlt)] at hs1
            have hq2 := own_far hq hs2 (fun k' hk' e => by
              have h1 : k' = g1 := by simpa [Value.ownBlock] using hk'.symm
              injection e with e
              omega)
            have hb2 := below_grown hb hs2 (Nat.le_refl _) (fun k' hk' => by injection hk' with hk'; omega)
            have hz := subK_at (a := O) (b := Q) (k := k) (i := k) (by rw [HOl.out]; exact hlt)
            rw [if_neg (by omega)] at hz
            have hz1 := HOs.out k
            have hz2 := HQs.out k
            rw [← hz] at hz1
            have Hs1 := Lib.hid hs1
            have Hq2 := Lib.hid hq2
            have Hb2 := Lib.hid hb2
            clear ho hq hb hs1 hs2 hq2 hb2 hz
            generalize (subK O Q k).getD k 0 = z at *
            generalize Q.getD k 0 = y1 at *
            obtain ⟨z0, z1⟩ := hz1
            obtain ⟨z2, z3⟩ := hz2
            have e4 : IntKind.i64.wrap (z - y1) = z - y1 := IntWalk.i64_in _ (by omega)
            go_wp2
            go_big_region
            go_wp2
            go_roundw
            case rel => exact ⟨k + 1, by omega, by go_num, Hs1.out, Hq2.out, Hb2.out.drew⟩
            case measure => simp [intOf]; omega
          · obtain rfl : k = m := by omega
            have Hres := Lib.hid (Hfin.out _ hb ho)
            clear ho hq hb
            go_wp2
            go_ret2
            exact Hres.out
    · have e1 : decide ((x, y) ∈ l) = false := by simpa using hm
      have E1 := Lib.hid e1
      clear hm e1
      go_wp2_with fail
      refine (spec_flIn A l.length c B l x y false _ (H.out.below (Hd1.out.mono hB)) rfl (Nat.le_trans hB Hd1.out.size) (by omega) E1.out).mono ?_
      rintro e w2 ⟨rfl, hb2⟩
      have Hd2 := Lib.hid (below_kept Hd1.out (Nat.le_refl _) hb2)
      have Hres := Lib.hid (Hno.out (by rw [HtB.out, E1.out]; rfl) _ Hd2.out)
      clear hb2 q0 q1
      go_wp2
      go_ret2
      exact Hres.out
theorem stored1 {w : World} {base e g n cap : Nat} {L : List Int} (h : w.ownsRow base e 1 (.slice (some ⟨g, 0, none⟩) n cap) n (ics L)) (k : Nat) (v : Int) :
    (w.setCell ⟨g, k, none⟩ (.int .i64 v)).ownsRow base e 1 (.slice (some ⟨g, 0, none⟩) n cap) n (ics (L.set k v)) ∧ w.grownBy (w.setCell ⟨g, k, none⟩ (.int .i64 v)) (some g) := by
  have := h.stored k (.int .i64 v)
  rwa [ics_set] at this
theorem cellI {w : World} {base e g n cap : Nat} {L : List Int} (h : w.ownsRow base e 1 (.slice (some ⟨g, 0, none⟩) n cap) n (ics L)) (k : Nat) (hk : k < n) : w.cell? ⟨g, k, none⟩ = some (.int .i64 (L.getD k 0)) := by
  have hn : n = L.length := by have := h.1; rw [ics_length] at this; omega
  rw [h.cellAt k (by omega), ics_get _ _ (by omega)]

set_option maxRecDepth 100000 in
set_option maxHeartbeats 3200000 in
theorem impl_QuiddityChange (n : Int) (A : Option Addr) (c B : Nat) (l : List (Int × Int)) (x y : Int) (w : World) (h : SlD w B A l) (hB : B ≤ w.heap.size) (hl : l.length ≤ 1048576) (hlc : l.length ≤ c) :
    Calls Try.prog 49 #[.int .i64 n, .slice A l.length c, .agg #[.int .i64 x, .int .i64 y]] w (RetI w (qcR n l (x, y)) (triB n l && decide ((x, y) ∈ l))) := by
  have H := Lib.hid h
  clear h
  have hba : Below w.heap.size w (w.alloc (.cells #[.int .i64 x, .int .i64 y] 40)) := (Below.refl _ _).alloc (Nat.le_refl _) _
  have Hba := Lib.hid hba
  clear hba
  go_enter Try.func49, Try.ntmps49
  go_wp2_with fail
  refine (impl_OtherDiagonal n A c B l x y _ (H.out.below (Hba.out.mono hB)) (Nat.le_trans hB Hba.out.size) hl hlc).mono ?_
  rintro e w1 ⟨rfl, hb1⟩
  have Hd1 := Lib.hid (below_kept Hba.out (Nat.le_refl _) hb1)
  have q0 : w1.cell? ⟨w.heap.size, 0, none⟩ = some (.int .i64 x) := cell_kept hb1 (by simp [go_sem])
  have q1 : w1.cell? ⟨w.heap.size, 1, none⟩ = some (.int .i64 y) := cell_kept hb1 (by simp [go_sem])
  have hw1 : w.heap.size < w1.heap.size := World.block_lt_of_cell? w1 _ q0
  clear hb1
  cases e0 : (triB n l && decide ((x, y) ∈ l))
  · rw [othR_no e0]
    have hres : ∀ w', Below w.heap.size w w' → RetI w (qcR n l (x, y)) (triB n l && decide ((x, y) ∈ l)) (.returned (.tuple #[.slice none 0 0, .bool false])) w' := fun w' hb => by
      rw [qcR_no e0, e0]
      exact retI_none hb
    have hb2 := Hd1.out.alloc Hd1.out.size (.cells #[.int .i64 0, .int .i64 0] 40)
    have Hres := Lib.hid (hres _ hb2)
    clear hres hb2
    go_wp2
    go_ret2
    exact Hres.out
  · rw [othR_yes e0]
    have hE := qcR_yes e0
    have E0 := Lib.hid e0
    rw [Bool.and_eq_true] at e0
    have T := tri_of e0.1
    have hm : (x, y) ∈ l := by simpa using e0.2
    obtain ⟨m, rfl⟩ := Int.eq_ofNat_of_zero_le (show 0 ≤ n by have := T.n3; omega)
    have hm12 : m ≤ 12 := by have := T.n12; omega
    have ho := oth_is T hm
    have hdg := T.dg _ hm
    have hp := ho.pos
    have hlo := ho.low
    have hhi := ho.high
    have hch : chL m (x, y) (oth m l (x, y)) = ((((List.replicate m (0 : Int)).set x.toNat (-1)).set y.toNat (-1)).set (oth m l (x, y)).1.toNat 1).set (oth m l (x, y)).2.toNat 1 := rfl
    simp only [Int.toNat_natCast] at hE
    rw [hch] at hE
    dsimp only at hdg hp
    clear hch T e0 ho hm
    generalize (oth m l (x, y)).1 = o1 at *
    generalize (oth m l (x, y)).2 = o2 at *
    obtain ⟨d0, d1, d2, d3⟩ := hdg
    obtain ⟨x, rfl⟩ := Int.eq_ofNat_of_zero_le d0
    obtain ⟨y, rfl⟩ := Int.eq_ofNat_of_zero_le (show 0 ≤ y by omega)
    obtain ⟨o1, rfl⟩ := Int.eq_ofNat_of_zero_le hlo
    obtain ⟨o2, rfl⟩ := Int.eq_ofNat_of_zero_le (show 0 ≤ o2 by omega)
    simp only [Int.toNat_natCast] at hE
    have HE := Lib.hid hE
    obtain ⟨i0, hi, hz0, hz1, hz2⟩ := info_parts infoI
    have hbytes : i0.bytes * m ≤ 281474976710656 := by rw [hz2]; omega
    have hmax : m ≤ maxLen := by unfold maxLen; omega
    have hb2 := Hd1.out.alloc Hd1.out.size (.cells #[.int .i64 o1, .int .i64 o2] 40)
    have Hb2 := Lib.hid hb2
    have k0 : (w1.alloc (.cells #[.int .i64 o1, .int .i64 o2] 40)).cell? ⟨w.heap.size, 0, none⟩ = some (.int .i64 x) := cell_kept ((Below.refl w1.heap.size w1).alloc (Nat.le_refl _) _) q0
    have k1 : (w1.alloc (.cells #[.int .i64 o1, .int .i64 o2] 40)).cell? ⟨w.heap.size, 1, none⟩ = some (.int .i64 y) := cell_kept ((Below.refl w1.heap.size w1).alloc (Nat.le_refl _) _) q1
    have k2 : (w1.alloc (.cells #[.int .i64 o1, .int .i64 o2] 40)).cell? ⟨w1.heap.size, 0, none⟩ = some (.int .i64 o1) := by simp [go_sem]
    have k3 : (w1.alloc (.cells #[.int .i64 o1, .int .i64 o2] 40)).cell? ⟨w1.heap.size, 1, none⟩ = some (.int .i64 o2) := by simp [go_sem]
    obtain ⟨wd, hwd⟩ : ∃ wd, wd = w1.alloc (.cells #[.int .i64 o1, .int .i64 o2] 40) := ⟨_, rfl⟩
    rw [← hwd] at k0 k1 k2 k3 Hb2
    have Hwd := Lib.hid hwd
    have hbd : w1.heap.size < wd.heap.size := World.block_lt_of_cell? wd _ k2
    have K0 := Lib.hid k0
    have K1 := Lib.hid k1
    have K2 := Lib.hid k2
    have K3 := Lib.hid k3
    clear hwd hb2 k0 k1 k2 k3 hE
    go_upto_region 4 with fail
    rw [← Hwd.out]
    clear Hwd
    go_wp2_with (at_make; refine wpList_make_full _ rfl _ _ _ rfl wd.heap.size 3 i0 (.int .i64 0) 1 Try.underlying56 hi hz0 hz1 _ _ _ _ m rfl rfl rfl rfl hbytes hmax (Nat.le_refl _) ?_; intro w3 hown3 hgrow3
                 have b3 : Below wd.heap.size wd w3 := (Below.refl _ _).grown hgrow3 (Nat.le_refl _) (by simp)
                 have e1 : (madeCells (Value.int .i64 0).cells (m * 1)).toList = ics (List.replicate m 0) := (by
                   rw [Nat.mul_one]
                   show (madeCells #[Value.int .i64 0] m).toList = _
                   rw [toList_madeCells_one]
                   simp [ics])
                 rw [e1] at hown3
                 have p0 := cell_kept b3 K0.out
                 have p1 := cell_kept b3 K1.out
                 have p2 := cell_kept b3 K2.out
                 have p3 := cell_kept b3 K3.out
                 have c0 := cellI hown3 x (by omega)
                 have c1 := cellI hown3 y (by omega)
                 have f0 := hown3.frozenAt x
                 have f1 := hown3.frozenAt y)
    have x0 : (0 : Int) ≤ (x : Int) := by omega
    have x1 : (x : Int) < (m : Int) := by omega
    have y0 : (0 : Int) ≤ (y : Int) := by omega
    have y1 : (y : Int) < (m : Int) := by omega
    have nxy : ¬x = y := by omega
    have nyx : ¬y = x := by omega
    have hwa : w.heap.size ≠ wd.heap.size := by omega
    go_big_region
    obtain ⟨o4, hg4⟩ := stored1 hown3 x (-1)
    obtain ⟨o5, hg5⟩ := stored1 o4 y (-1)
    have hg45 := hg4.trans hg5
    have b5 := (b3.grown hg45 b3.size (fun k hk => by injection hk with hk; omega)).drew
    have o5d := own_kept o5 (Below.refl ((w3.setCell ⟨wd.heap.size, x, none⟩ (.int .i64 (-1))).setCell ⟨wd.heap.size, y, none⟩ (.int .i64 (-1))).heap.size _).drew
    obtain ⟨w5, hw5⟩ : ∃ w5, w5 = ((w3.setCell ⟨wd.heap.size, x, none⟩ (.int .i64 (-1))).setCell ⟨wd.heap.size, y, none⟩ (.int .i64 (-1))).drew := ⟨_, rfl⟩
    rw [← hw5] at b5 o5d ⊢
    have r2 := cell_kept b5 K2.out
    have r3 := cell_kept b5 K3.out
    have t0 := cellI o5d o1 (by omega)
    have t1 := cellI o5d o2 (by omega)
    have f2 := o5d.frozenAt o1
    have f3 := o5d.frozenAt o2
    obtain ⟨o6, hg6⟩ := stored1 o5d o1 1
    obtain ⟨o7, hg7⟩ := stored1 o6 o2 1
    have hg67 := hg6.trans hg7
    have b7 := (b5.grown hg67 b5.size (fun k hk => by injection hk with hk; omega)).drew
    have o7d := own_kept o7 (Below.refl ((w5.setCell ⟨wd.heap.size, o1, none⟩ (.int .i64 1)).setCell ⟨wd.heap.size, o2, none⟩ (.int .i64 1)).heap.size _).drew
    have hsz5 : wd.heap.size < w5.heap.size := (o5d.lt wd.heap.size rfl).2
    have O7 := Lib.hid o7d
    have B7 := Lib.hid b7
    have g0 : (0 : Int) ≤ (o1 : Int) := by omega
    have g1 : (o1 : Int) < (m : Int) := by omega
    have g2 : (0 : Int) ≤ (o2 : Int) := by omega
    have g3 : (o2 : Int) < (m : Int) := by omega
    have n12 : ¬o1 = o2 := by have := hp; omega
    have n21 : ¬o2 = o1 := by have := hp; omega
    clear hown3 hgrow3 b3 e1 p0 p1 p2 p3 c0 c1 f0 f1 o4 o5 hg4 hg5 hg45 hw5 o6 o7 hg6 hg7 hg67 b7 o7d o5d b5
    generalize (((List.replicate m (0 : Int)).set x (-1)).set y (-1)).getD o1 0 = z1 at *
    generalize (((List.replicate m (0 : Int)).set x (-1)).set y (-1)).getD o2 0 = z2 at *
    go_wp2
    go_big_region
    have hres : RetI w (qcR m l ((x : Int), (y : Int))) (triB m l && decide (((x : Int), (y : Int)) ∈ l)) (.returned (.tuple #[.slice (some ⟨wd.heap.size, 0, none⟩) m m, .bool true])) (((w5.setCell ⟨wd.heap.size, o1, none⟩ (.int .i64 1)).setCell ⟨wd.heap.size, o2, none⟩ (.int .i64 1)).drew) := by
      rw [HE.out, E0.out]
      exact ⟨some ⟨wd.heap.size, 0, none⟩, m, by simp, by simpa using O7.out.mono Hb2.out.size, below_kept Hb2.out (Nat.le_refl _) B7.out⟩
    have Hres := Lib.hid hres
    clear hres
    go_wp2
    go_ret2
    exact Hres.out
end Go.Proofs.Ytbpaaoeefcebeaa
