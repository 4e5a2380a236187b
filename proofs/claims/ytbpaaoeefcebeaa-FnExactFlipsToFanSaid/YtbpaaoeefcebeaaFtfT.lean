/- FlipsToFan: the model's and the program's contract. -/
import Derived.Test.YtbpaaoeefcebeaaFtfI
import Derived.Test.YtbpaaoeefcebeaaFliU
import Derived.Deep.CutBlock
namespace Go.Proofs.Ytbpaaoeefcebeaa
set_option linter.unusedVariables false
open Go.RowKit

def slen : Value → Nat
  | .slice _ n _ => n
  | _ => 0
theorem spec_l1In3 (n lo hi : Int) (w : World) : Calls Try.prog 77 #[.int .i64 n, .int .i64 lo, .int .i64 hi] w fun e w' => e = .returned (.bool (decide (lo ≤ n ∧ n ≤ hi))) ∧ w = w' := by
  go_enter Try.func77, Try.ntmps77
  go_wp2
  all_goals go_ret
  all_goals refine ⟨ret_bool ?_, rfl⟩
  all_goals (rw [Bool.eq_iff_iff]; simp; try omega)
theorem impl_isCorner3 (n c : Int) (w : World) : Calls Try.prog 78 #[.int .i64 n, .int .i64 c] w fun e w' => e = .returned (.bool (decide (0 ≤ c ∧ c ≤ n - 1))) ∧ w = w' := impl_isCorner n c _ w rfl

theorem grown_set (w : World) (b i : Nat) (v : Value) : w.grownBy (w.setCell ⟨b, i, none⟩ v) (some b) :=
  ⟨rfl, rfl, rfl, by simp [World.setCell], fun k _ hk => Below.heap_setCell _ _ _ _ (fun e => hk (by simp [e]))⟩
theorem Bx2.grown {w w' : World} {g : Nat} {x y : Int} {row : Option Nat} (h : Bx2 w g x y) (hg : w.grownBy w' row) (hne : some g ≠ row) : Bx2 w' g x y :=
  ⟨⟨(hg.cell_far ⟨g, 0, none⟩ h.lt hne).trans h.1.1, (hg.cell_far ⟨g, 1, none⟩ h.lt hne).trans h.1.2⟩, (hg.frozen_far ⟨g, 0, none⟩ h.lt hne).trans h.2.1, (hg.frozen_far ⟨g, 1, none⟩ h.lt hne).trans h.2.2⟩
theorem SlD.grown {w w' : World} {B : Nat} {A : Option Addr} {l : List (Int × Int)} {row : Option Nat} (h : SlD w B A l) (hg : w.grownBy w' row) (hB : B ≤ w.heap.size) (hne : 0 < l.length → ∀ b o, A = some ⟨b, o, none⟩ → some b ≠ row) : SlD w' B A l := fun h0 => by
  replace hne := hne h0
  obtain ⟨b, off, e, hb, hc⟩ := h h0
  refine ⟨b, off, e, hb, fun j hj => ?_⟩
  have hlt : b < w.heap.size := by omega
  exact ⟨(hg.cell_far ⟨b, off + j * 2, none⟩ hlt (hne b off e)).trans (hc j hj).1, (hg.cell_far ⟨b, off + j * 2 + 1, none⟩ hlt (hne b off e)).trans (hc j hj).2⟩
theorem own_addr {w : World} {base e size n c : Nat} {A : Option Addr} {xs : List Value} (h : w.ownsRow base e size (.slice A n c) n xs) : ∀ b o, A = some ⟨b, o, none⟩ → base ≤ b ∧ b < w.heap.size := fun b o hA => h.lt b (by rw [hA]; rfl)

set_option maxRecDepth 100000 in
set_option maxHeartbeats 3200000 in
theorem impl_FlipsToFan (n : Int) (A : Option Addr) (c B : Nat) (l : List (Int × Int)) (a : Int) (w : World) (h : SlD w B A l) (hB : B ≤ w.heap.size) (hl : l.length ≤ 1048576) (hlc : l.length ≤ c) :
    Calls Try.prog 45 #[.int .i64 n, .slice A l.length c, .int .i64 a] w (RetD w (ffR n l a) (triB n l && decide (0 ≤ a ∧ a ≤ n - 1))) := by
  obtain ⟨m, hm⟩ : ∃ m, l.length = m := ⟨_, rfl⟩
  have hG := impl_IsTriangulation n A c B l w h hB hl hlc
  rw [hm] at hG hl hlc ⊢
  have HG := Lib.hid hG
  have H := Lib.hid h
  have Hl := Lib.hid hm
  have hno : (triB n l && decide (0 ≤ a ∧ a ≤ n - 1)) = false → ∀ w', Below w.heap.size w w' → RetD w (ffR n l a) (triB n l && decide (0 ≤ a ∧ a ≤ n - 1)) (.returned (.tuple #[.slice none 0 0, .bool false])) w' := fun e w' hb => by
    rw [ffR_no e, e]
    exact retD_none hb
  have Hno := Lib.hid hno
  clear h hm hG hno
  go_enter Try.func45, Try.ntmps45
  go_wp2_with fail
  refine HG.out.mono ?_
  rintro e w1 ⟨rfl, hb1⟩
  clear HG
  cases ht : triB n l
  · have Hres := Lib.hid (Hno.out (by rw [ht]; rfl) _ hb1)
    clear hb1
    go_wp2
    go_ret2
    exact Hres.out
  · have T := tri_of ht
    obtain ⟨q, rfl⟩ := Int.eq_ofNat_of_zero_le (show 0 ≤ n by have := T.n3; omega)
    have hq : (q : Int) = (m : Int) + 3 := by have := T.len; have := Hl.out; omega
    have hm9 : m ≤ 9 := by have := T.n12; omega
    have HT := Lib.hid T
    have Hb1 := Lib.hid hb1
    have Ht := Lib.hid ht
    have Hq := Lib.hid hq
    clear T hb1 ht hq
    go_wp2_with fail
    refine (impl_isCorner3 _ _ _).mono ?_
    rintro e w2 ⟨rfl, rfl⟩
    by_cases hc : 0 ≤ a ∧ a ≤ (q : Int) - 1
    · have e1 : decide (0 ≤ a ∧ a ≤ (q : Int) - 1) = true := by simpa using hc
      have e0 : (triB q l && decide (0 ≤ a ∧ a ≤ (q : Int) - 1)) = true := by rw [Ht.out, e1]; rfl
      have hE := ffR_yes e0
      simp only [Int.toNat_natCast] at hE
      have HE := Lib.hid hE
      have E0 := Lib.hid e0
      rw [e1]
      clear hE e0 e1 hc Hno
      go_wp2_with fail
      refine (impl_firstFlipTo q A m c B l a _ (H.out.below (Hb1.out.mono hB)) Hl.out (Nat.le_trans hB Hb1.out.size) HT.out).mono ?_
      rintro e w3 ⟨rfl, hb3⟩
      have hd3 := below_kept Hb1.out (Nat.le_refl _) hb3
      have hS3 : SlD w3 w3.heap.size A l := (H.out.below (hd3.mono hB)).mono (Nat.le_trans hB hd3.size)
      obtain ⟨o1, ho1⟩ : ∃ o, o = ffind q a l := ⟨_, rfl⟩
      rw [← ho1]
      generalize hxy : o1.getD (0, 0) = xy at *
      obtain ⟨x, y⟩ := xy
      dsimp only
      obtain ⟨w4, hw4⟩ : ∃ w4, w4 = w3.alloc (.cells #[.int .i64 x, .int .i64 y] 40) := ⟨_, rfl⟩
      have hR4 : Bx2 w4 w3.heap.size x y := by rw [hw4]; exact Bx2.new _ _ _ _
      have hd4 : Below w.heap.size w w4 := by rw [hw4]; exact hd3.alloc hd3.size _
      have hS4 : SlD w4 w4.heap.size A l := by
        have hb4 : Below w3.heap.size w3 w4 := by rw [hw4]; exact (Below.refl _ _).alloc (Nat.le_refl _) _
        exact (hS3.below hb4).mono hb4.size
      have hbg : w1.heap.size ≤ w3.heap.size := hb3.size
      have Hw4 := Lib.hid hw4
      have HR4 := Lib.hid hR4
      have Hd4 := Lib.hid hd4
      have HS4 := Lib.hid hS4
      have Ho1 := Lib.hid ho1
      have Hxy := Lib.hid hxy
      have hwg : w.heap.size ≤ w3.heap.size := hd3.size
      clear hb3 hd3 hS3 hR4 hd4 hS4 ho1 hxy hw4
      obtain ⟨gb, hgb⟩ : ∃ gb, gb = w3.heap.size := ⟨_, rfl⟩
      go_upto_block 0 with fail
      rw [← Hw4.out, ← hgb]
      rw [← hgb] at HR4 hwg
      have HAb : Hid (0 < m → ∀ b o, A = some ⟨b, o, none⟩ → b ≠ gb ∧ some b ≠ (Value.slice none ([] : List (Int × Int)).length 0).ownBlock) := Lib.hid (fun h0 b o e => by
        obtain ⟨b', off', e', hb', _⟩ := H.out (by have := Hl.out; omega)
        rw [e] at e'
        injection e' with e'
        injection e' with e'
        exact ⟨by omega, by simp [Value.ownBlock]⟩)
      clear Hw4 hgb hbg
      go_wp2
      go_loopw [1, 8, 10] (fun vd vo vf wr => ∃ (cur out : List (Int × Int)) (Ac : Option Addr) (cc : Nat) (Ao : Option Addr) (co : Nat) (x y : Int), vd = .slice Ac m cc ∧ vo = .slice Ao out.length co ∧ vf = .bool (ffind q a cur).isSome ∧
          (cur.length = m ∧ Tri q cur ∧ (ffind q a cur).getD (0, 0) = (x, y) ∧ fanG q a q l = out ++ fanG q a (q - out.length) cur ∧ out.length ≤ degAt cur a) ∧
          SlD wr wr.heap.size Ac cur ∧ wr.ownsRow (gb + 1) 40 2 (.slice Ao out.length co) out.length (dcs out) ∧ Bx2 wr gb x y ∧ (0 < m → ∀ b o, Ac = some ⟨b, o, none⟩ → b ≠ gb ∧ some b ≠ (Value.slice Ao out.length co).ownBlock) ∧ Below w.heap.size w wr) (fun _ vo _ _ => m + 1 - slen vo)
      case atStart => exact ⟨l, [], A, c, none, 0, x, y, rfl, rfl, by rw [Ho1.out], ⟨Hl.out, HT.out, by rw [← Ho1.out]; exact Hxy.out, rfl, Nat.zero_le _⟩, HS4.out, World.ownsRow_nil _ _ _ _, HR4.out, HAb.out, Hd4.out⟩
      case round =>
        clear HS4 HR4 Hd4 Ho1 Hxy HT
        obtain ⟨cur, out, Ac, cc, Ao, co, x', y', rfl, rfl, rfl, hmath, hS, hO, hR, hA, hb⟩ := hrel
        have hN : ∀ k, (Value.slice Ao out.length co).ownBlock = some k → k ≠ gb := fun k hk e => by have := (hO.lt k hk).1; omega
        obtain ⟨hcl, hcT, hxy, hfan, hdeg⟩ := hmath
        have hol : out.length ≤ m := by have := deg_le cur a; omega
        cases hf : ffind q a cur with
        | none =>
          rw [fanG_none hf, List.append_nil] at hfan
          have hres : RetD w (ffR q l a) (triB q l && decide (0 ≤ a ∧ a ≤ (q : Int) - 1)) (.returned (.tuple #[.slice Ao out.length co, .bool true])) wr := by
            rw [HE.out, E0.out, hfan]
            exact ⟨Ao, co, rfl, hO.mono (by omega), hb⟩
          have Hres := Lib.hid hres
          simp only [Option.isSome_none]
          clear hres hS hO hR hN hA hb hfan hxy hf hcT
          go_wp2
          go_ret2
          exact Hres.out
        | some d =>
          have hdx : d = (x', y') := by rw [hf] at hxy; exact hxy
          subst hdx
          obtain ⟨hdm, hda⟩ := ffind_mem hf
          have hq9 := Hq.out
          obtain ⟨f, hfu⟩ : ∃ f, q - out.length = f + 1 := ⟨q - out.length - 1, by omega⟩
          rw [hfu, fanG_some hf] at hfan
          have hdg2 := deg_flip hcT hf
          have hfl : (flipL q cur (x', y')).length = m := by rw [flip_length hcT hdm, hcl]
          have hmath2 : (flipL q cur (x', y')).length = m ∧ Tri q (flipL q cur (x', y')) ∧ fanG q a q l = (out ++ [(x', y')]) ++ fanG q a (q - (out ++ [(x', y')]).length) (flipL q cur (x', y')) ∧ (out ++ [(x', y')]).length ≤ degAt (flipL q cur (x', y')) a := by
            refine ⟨hfl, flip_tri hcT hdm, ?_, by rw [hdg2]; simp; omega⟩
            rw [hfan, List.append_assoc]
            have : q - (out ++ [(x', y')]).length = f := by simp; omega
            rw [this]
            rfl
          have Hm2 := Lib.hid hmath2
          have Hdm := Lib.hid hdm
          have Hcl := Lib.hid hcl
          have HcT := Lib.hid hcT
          have Hfl := Lib.hid hfl
          have hR0 := hR
          obtain ⟨⟨b0, b1⟩, _, _⟩ := hR0
          have ho2 := hO.alloc (.cells #[.int .i64 x', .int .i64 y'] 40)
          have hb2 := hb.alloc hb.size (.cells #[.int .i64 x', .int .i64 y'] 40)
          have HR2 := Lib.hid (hR.alloc (.cells #[.int .i64 x', .int .i64 y'] 40))
          have HS2 := Lib.hid ((hS.below ((Below.refl wr.heap.size wr).alloc (Nat.le_refl _) (.cells #[.int .i64 x', .int .i64 y'] 40))))
          have Hb2 := Lib.hid hb2
          have HN := Lib.hid hN
          have hgwr : gb < wr.heap.size := hR.lt
          have hobl := ho2.lt
          have Hobl := Lib.hid hobl
          simp only [Option.isSome_some]
          have HA := Lib.hid hA
          have hl9 : out.length ≤ 1000000 := by omega
          have hgw2 : gb + 1 ≤ (wr.alloc (.cells #[.int .i64 x', .int .i64 y'] 40)).heap.size := by simp; omega
          have HOb : Hid (∀ k, (Value.slice Ao out.length co).ownBlock = some k → k < wr.heap.size) := Lib.hid (fun k hk => (hO.lt k hk).2)
          clear hS hO hR hN hA hb hfan hxy hf hcT hmath2 hdm hcl hfl hdeg hda hdg2 hfu hb2 hobl hq9
          go_wp2_with (at_builtin; refine append1Dn _ rfl _ _ rfl (gb + 1) (.slice Ao out.length co) out.length out rfl rfl ho2 wr.heap.size x' y' rfl ?c1 ?c2 hl9 hgw2 ?_; (case c1 => simp [go_sem]); (case c2 => simp [go_sem]); intro A3 c3 w9 own3 hg3; have hR9 := HR2.out.grown hg3 (fun e => HN.out gb e.symm rfl); have cc0 := hR9.1.1; have cc1 := hR9.1.2)
          have hb9 := below_grown Hb2.out hg3 (Nat.le_refl _) (fun k hk => by have := (Hobl.out k hk).1; omega)
          have hs1 : wr.heap.size ≤ (wr.alloc (.cells #[.int .i64 x', .int .i64 y'] 40)).heap.size := by simp
          have hS9 := ((HS2.out.mono hs1).grown hg3 (Nat.le_refl _) (fun h0 b o e => (HA.out (by rw [← Hcl.out]; exact h0) b o e).2)).mono hg3.size
          have HS9 := Lib.hid hS9
          have HR9 := Lib.hid hR9
          have Hb9 := Lib.hid hb9
          have Ho9 := Lib.hid own3
          have hN9 : Hid (∀ k, (Value.slice A3 (out.length + 1) c3).ownBlock = some k → k ≠ gb) := Lib.hid (fun k hk e => by
            have := (own3.lt k hk).1
            omega)
          clear hg3 ho2 hS9 hR9 hb9 own3 b0 b1
          with_reducible refine (impl_flipped q Ac m cc _ cur x' y' w9 HS9.out Hcl.out (Nat.le_refl _) HcT.out Hdm.out).mono ?_
          rintro e w10 ⟨A10, c10, rfl, ho10, hb10⟩
          rw [Hfl.out] at ho10 ⊢
          have hS10 := SlD.of_own ho10
          have hA10 := own_addr ho10
          have hO10 := own_kept Ho9.out hb10
          have hO9b := Ho9.out.lt
          have hR10 := HR9.out.kept hb10
          have hb10' := below_kept Hb9.out (Nat.le_refl _) hb10
          have HS10 := Lib.hid hS10
          have HA10 := Lib.hid hA10
          have HO10 := Lib.hid hO10
          have HO9b := Lib.hid hO9b
          have HR10 := Lib.hid hR10
          have Hb10 := Lib.hid hb10'
          have hgb9 : gb < w9.heap.size := HR9.out.lt
          clear hb10 hb10' ho10 hS10 hA10 hO10 hO9b hR10 HS9 HR9 Hb9 Ho9 cc0 cc1
          go_wp2_with fail
          have Hm3 := Lib.hid Hm2.out
          with_reducible refine (impl_firstFlipTo q A10 m c10 _ (flipL q cur (x', y')) a w10 HS10.out Hm2.out.1 (Nat.le_refl _) Hm2.out.2.1).mono ?_
          rintro e w11 ⟨rfl, hb11⟩
          generalize hxy2 : (ffind q a (flipL q cur (x', y'))).getD (0, 0) = xy2 at *
          obtain ⟨x2, y2⟩ := xy2
          dsimp only
          have hR11 := HR10.out.kept hb11
          have hO11 := own_kept HO10.out hb11
          have hS11 := (HS10.out.below hb11)
          have hb12 := below_kept Hb10.out (Nat.le_refl _) hb11
          have hg1 := grown_set w11 gb 0 (.int .i64 x2)
          have hg2 := grown_set (w11.setCell ⟨gb, 0, none⟩ (.int .i64 x2)) gb 1 (.int .i64 y2)
          have hg12 := hg1.trans hg2
          have hR12 := (hR11.set0 x2).set1 y2
          have hO12 := own_far hO11 hg12 (fun k hk e => hN9.out k hk (by injection e))
          have hS12 := (hS11.mono hb11.size).grown hg12 (Nat.le_refl _) (fun _ b o e => by
            have := (HA10.out b o e).1
            intro e2
            injection e2 with e2
            omega)
          have hsz12 : w11.heap.size ≤ ((w11.setCell ⟨gb, 0, none⟩ (.int .i64 x2)).setCell ⟨gb, 1, none⟩ (.int .i64 y2)).heap.size := hg12.size
          have hb13 := (hb12.setCell (p := ⟨gb, 0, none⟩) hwg (.int .i64 x2)).setCell (p := ⟨gb, 1, none⟩) hwg (.int .i64 y2)
          have hlen : (out ++ [(x', y')]).length = out.length + 1 := by simp
          have hNA : 0 < m → ∀ b o, A10 = some ⟨b, o, none⟩ → b ≠ gb ∧ some b ≠ (Value.slice A3 (out.length + 1) c3).ownBlock := fun _ b o e => by
            have h1 := (HA10.out b o e).1
            refine ⟨by omega, fun e2 => ?_⟩
            have := (HO9b.out b e2.symm).2
            omega
          have HRel := Lib.hid (show ∃ (cur' out' : List (Int × Int)) (Ac' : Option Addr) (cc' : Nat) (Ao' : Option Addr) (co' : Nat) (x'' y'' : Int), Value.slice A10 m c10 = .slice Ac' m cc' ∧ Value.slice A3 (out.length + 1) c3 = .slice Ao' out'.length co' ∧ Value.bool (ffind q a (flipL q cur (x', y'))).isSome = .bool (ffind q a cur').isSome ∧
              (cur'.length = m ∧ Tri q cur' ∧ (ffind q a cur').getD (0, 0) = (x'', y'') ∧ fanG q a q l = out' ++ fanG q a (q - out'.length) cur' ∧ out'.length ≤ degAt cur' a) ∧
              SlD ((w11.setCell ⟨gb, 0, none⟩ (.int .i64 x2)).setCell ⟨gb, 1, none⟩ (.int .i64 y2)) ((w11.setCell ⟨gb, 0, none⟩ (.int .i64 x2)).setCell ⟨gb, 1, none⟩ (.int .i64 y2)).heap.size Ac' cur' ∧ ((w11.setCell ⟨gb, 0, none⟩ (.int .i64 x2)).setCell ⟨gb, 1, none⟩ (.int .i64 y2)).ownsRow (gb + 1) 40 2 (.slice Ao' out'.length co') out'.length (dcs out') ∧
              Bx2 ((w11.setCell ⟨gb, 0, none⟩ (.int .i64 x2)).setCell ⟨gb, 1, none⟩ (.int .i64 y2)) gb x'' y'' ∧ (0 < m → ∀ b o, Ac' = some ⟨b, o, none⟩ → b ≠ gb ∧ some b ≠ (Value.slice Ao' out'.length co').ownBlock) ∧ Below w.heap.size w ((w11.setCell ⟨gb, 0, none⟩ (.int .i64 x2)).setCell ⟨gb, 1, none⟩ (.int .i64 y2)) from
            ⟨flipL q cur (x', y'), out ++ [(x', y')], A10, c10, A3, c3, x2, y2, rfl, by rw [hlen], rfl, ⟨Hm2.out.1, Hm2.out.2.1, hxy2, Hm2.out.2.2.1, Hm2.out.2.2.2⟩, hS12.mono hsz12, by rw [hlen]; exact hO12, hR12, by rw [hlen]; exact hNA, hb13⟩)
          obtain ⟨⟨v0, v1⟩, z0, z1⟩ := hR11
          have hgb11 : gb < w11.heap.size := World.block_lt_of_cell? w11 _ v0
          clear hR12 hO11 hO12 hS11 hS12 hb12 hb13 hg1 hg2 hg12 hb11 hNA hlen hxy2 HS10 HA10 HO10 HO9b HR10 Hb10 hN9 Hm3
          generalize (ffind q a (flipL q cur (x', y'))).isSome = fb at *
          go_wp2
          go_roundw
          case rel => exact HRel.out
          case measure => simp [slen]; omega
    · have e1 : decide (0 ≤ a ∧ a ≤ (q : Int) - 1) = false := by simpa using hc
      have Hres := Lib.hid (Hno.out (by rw [Ht.out, e1]; rfl) _ Hb1.out)
      rw [e1]
      clear hc e1
      go_wp2
      go_ret2
      exact Hres.out
end Go.Proofs.Ytbpaaoeefcebeaa
