/- FlipsToFan: the model's contract. -/
import Derived.Test.YtbpaaoeefcebeaaFtfT
namespace Go.Proofs.Ytbpaaoeefcebeaa
set_option linter.unusedVariables false
open Go.RowKit

/-- two rows of pairs in one block have the same pairs -/
theorem rows_apart {w : World} {base base' e e' g n n' c c' j : Nat} {l r : List (Int × Int)} {o o' : Nat} (h : w.ownsRow base e 2 (.slice (some ⟨g, o, none⟩) n c) n (dcs l)) (h' : w.ownsRow base' e' 2 (.slice (some ⟨g, o', none⟩) n' c') n' (dcs r)) (hl : j < l.length) (hr : j < r.length) :
    l.getD j (0, 0) = r.getD j (0, 0) := by
  have hn : n = l.length := by have := h.1; rw [dcs_length] at this; omega
  have hn' : n' = r.length := by have := h'.1; rw [dcs_length] at this; omega
  subst hn hn'
  obtain ⟨g1, cap1, hv1, _, _⟩ := h.form (by omega)
  obtain ⟨g2, cap2, hv2, _, _⟩ := h'.form (by omega)
  injection hv1 with e1
  injection e1 with e1
  injection e1 with e1a e1b
  injection hv2 with e2
  injection e2 with e2
  injection e2 with e2a e2b
  subst e1b e2b
  have a0 := h.cellAt (j * 2) (by omega)
  have a1 := h.cellAt (j * 2 + 1) (by omega)
  have b0 := h'.cellAt (j * 2) (by omega)
  have b1 := h'.cellAt (j * 2 + 1) (by omega)
  rw [dcs_get0 l j hl] at a0
  rw [dcs_get1 l j hl] at a1
  rw [dcs_get0 r j hr] at b0
  rw [dcs_get1 r j hr] at b1
  rw [a0] at b0
  rw [a1] at b1
  injection b0 with b0
  injection b0 with _ b0
  injection b1 with b1
  injection b1 with _ b1
  exact Prod.ext b0 b1

set_option maxRecDepth 100000 in
set_option maxHeartbeats 3200000 in
theorem spec_FlipsToFan (n : Int) (A : Option Addr) (c B : Nat) (l : List (Int × Int)) (a : Int) (w : World) (h : SlD w B A l) (hB : B ≤ w.heap.size) (hl : l.length ≤ 1048576) (hlc : l.length ≤ c) :
    Calls Try.prog 44 #[.int .i64 n, .slice A l.length c, .int .i64 a] w (RetD w (ffR n l a) (triB n l && decide (0 ≤ a ∧ a ≤ n - 1))) := by
  obtain ⟨m, hm⟩ : ∃ m, l.length = m := ⟨_, rfl⟩
  have hG := spec_poGood n A c B l w h hB hl hlc
  rw [hm] at hG hl hlc ⊢
  have HG := Lib.hid hG
  have H := Lib.hid h
  have Hl := Lib.hid hm
  have hno : (triB n l && decide (0 ≤ a ∧ a ≤ n - 1)) = false → ∀ w', Below w.heap.size w w' → RetD w (ffR n l a) (triB n l && decide (0 ≤ a ∧ a ≤ n - 1)) (.returned (.tuple #[.slice none 0 0, .bool false])) w' := fun e w' hb => by
    rw [ffR_no e, e]
    exact retD_none hb
  have Hno := Lib.hid hno
  clear h hm hG hno
  go_enter Try.func44, Try.ntmps44
  go_wp2_with fail
  refine HG.out.mono ?_
  rintro e w1 ⟨rfl, hb1⟩
  clear HG
  cases ht : triB n l
  · have Hres := Lib.hid (Hno.out (by rw [ht]; rfl) _ hb1)
    clear hb1
    go_wp2
    go_ret2
    exact Hres.out
  · have T := tri_of ht
    obtain ⟨q, rfl⟩ := Int.eq_ofNat_of_zero_le (show 0 ≤ n by have := T.n3; omega)
    have hq : (q : Int) = (m : Int) + 3 := by have := T.len; have := Hl.out; omega
    have hm9 : m ≤ 9 := by have := T.n12; omega
    have hq12 : (q : Int) ≤ 12 := T.n12
    have hq3 : (3 : Int) ≤ (q : Int) := T.n3
    have HT := Lib.hid T
    have Hb1 := Lib.hid hb1
    have Ht := Lib.hid ht
    have Hq := Lib.hid hq
    clear T hb1 ht hq
    go_wp2_with fail
    refine (spec_l1In3 _ _ _ _).mono ?_
    rintro e w2 ⟨rfl, rfl⟩
    by_cases hc : 0 ≤ a ∧ a ≤ (q : Int) - 1
    · have e1 : decide (0 ≤ a ∧ a ≤ (q : Int) - 1) = true := by simpa using hc
      have e0 : (triB q l && decide (0 ≤ a ∧ a ≤ (q : Int) - 1)) = true := by rw [Ht.out, e1]; rfl
      have hE := ffR_yes e0
      simp only [Int.toNat_natCast] at hE
      have HE := Lib.hid hE
      have E0 := Lib.hid e0
      rw [e1]
      clear hE e0 e1 hc Hno
      have HS1 : Hid (SlD w1 w1.heap.size A l) := Lib.hid ((H.out.below (Hb1.out.mono hB)).mono (Nat.le_trans hB Hb1.out.size))
      have HAb : Hid (0 < m → ∀ b o, A = some ⟨b, o, none⟩ → some b ≠ (Value.slice none ([] : List (Int × Int)).length 0).ownBlock) := Lib.hid (fun _ b o _ => by simp [Value.ownBlock])
      go_wp2
      go_loopw [1, 8, 9] (fun vd vo i wr => ∃ (k : Nat) (cur out : List (Int × Int)) (Ac : Option Addr) (cc : Nat) (Ao : Option Addr) (co : Nat), k ≤ q ∧ i = .int .i64 k ∧ vd = .slice Ac m cc ∧ vo = .slice Ao out.length co ∧
          (cur.length = m ∧ Tri q cur ∧ fanG q a q l = out ++ fanG q a (q - k) cur ∧ out.length ≤ degAt cur a) ∧
          SlD wr wr.heap.size Ac cur ∧ wr.ownsRow w1.heap.size 40 2 (.slice Ao out.length co) out.length (dcs out) ∧ (0 < m → ∀ b o, Ac = some ⟨b, o, none⟩ → some b ≠ (Value.slice Ao out.length co).ownBlock) ∧ Below w1.heap.size w1 wr) (fun _ _ i _ => q - (intOf i).toNat)
      case atStart => exact ⟨0, l, [], A, c, none, 0, Nat.zero_le _, rfl, rfl, rfl, ⟨Hl.out, HT.out, rfl, Nat.zero_le _⟩, HS1.out, World.ownsRow_nil _ _ _ _, HAb.out, Below.refl _ _⟩
      case round =>
        clear HS1 HAb HT
        obtain ⟨k, cur, out, Ac, cc, Ao, co, hk, rfl, rfl, rfl, hmath, hS, hO, hA, hb⟩ := hrel
        by_cases hlt : k < q
        · obtain ⟨hcl, hcT, hfan, hdeg⟩ := hmath
          have i0 : (0 : Int) ≤ (k : Int) := by omega
          have i1 : (k : Int) < (q : Int) := by omega
          have hol : out.length ≤ m := by have := deg_le cur a; omega
          have Hcl := Lib.hid hcl
          have HcT := Lib.hid hcT
          have Hfan := Lib.hid hfan
          have Hdeg := Lib.hid hdeg
          have HA := Lib.hid hA
          have HO := Lib.hid hO
          have HS := Lib.hid hS
          have Hb := Lib.hid hb
          have HW := Lib.hid (below_kept Hb1.out (Nat.le_refl _) hb)
          clear hcl hcT hfan hdeg hA hO hS hb
          go_wp2
          obtain ⟨wo, hwo⟩ : ∃ wo, wo = wr := ⟨_, rfl⟩
          rw [← hwo] at HO HS Hb HW ⊢
          clear hwo
          go_loopw [1, 8, 31] (fun vd vo i wq => ∃ j : Nat, j ≤ m ∧ i = .int .i64 j ∧ vd = .slice Ac m cc ∧ vo = .slice Ao out.length co ∧ (∀ i, i < j → hasAt (oth q cur (cur.getD i (0, 0))) a = false) ∧ Below wo.heap.size wo wq) (fun _ _ i _ => m - (intOf i).toNat)
          case atStart => exact ⟨0, Nat.zero_le _, rfl, rfl, rfl, fun i hi => by omega, Below.refl _ _⟩
          case round =>
            obtain ⟨j, hj, rfl, rfl, rfl, hno, hbj⟩ := hrel
            have Hno := Lib.hid hno
            clear hno
            by_cases hjt : j < m
            · have hSj := HS.out.below hbj
              obtain ⟨b, off, hAc, hbB, hc⟩ := hSj (by have := Hcl.out; omega)
              subst hAc
              obtain ⟨g0, g1⟩ := hc j (by rw [Hcl.out]; exact hjt)
              have j0 : (0 : Int) ≤ (j : Int) := by omega
              have j1 : (j : Int) < (m : Int) := by omega
              have hbr : b < wr.heap.size := Nat.lt_of_lt_of_le hbB hbj.size
              have hmm := getD_mem (l := cur) (k := j) (by rw [Hcl.out]; exact hjt)
              have hfirst := ffind_first (n := q) (c := a) (l := cur) (k := j) (by rw [Hcl.out]; exact hjt) Hno.out
              generalize hdd : cur.getD j (0, 0) = d at *
              obtain ⟨u, v⟩ := d
              dsimp only at g0 g1
              have Hdd := Lib.hid hdd
              have Hm := Lib.hid hmm
              have Hfirst := Lib.hid hfirst
              have Hbj := Lib.hid (hbj.alloc hbj.size (.cells #[.int .i64 u, .int .i64 v] 40))
              clear hc hmm hdd hSj hbj hfirst
              go_wp2_with fail
              with_reducible refine (spec_flOther q _ m cc wo.heap.size cur u v _ (HS.out.below Hbj.out) Hcl.out Hbj.out.size HcT.out Hm.out).mono ?_
              rintro e w5 ⟨rfl, hb5⟩
              have q0 : w5.cell? ⟨wr.heap.size, 0, none⟩ = some (.int .i64 u) := cell_kept hb5 (by simp [go_sem])
              have q1 : w5.cell? ⟨wr.heap.size, 1, none⟩ = some (.int .i64 v) := cell_kept hb5 (by simp [go_sem])
              have hwr : wr.heap.size < w5.heap.size := World.block_lt_of_cell? w5 _ q0
              have hho : hasAt (oth q cur (u, v)) a = (decide ((oth q cur (u, v)).1 = a) || decide ((oth q cur (u, v)).2 = a)) := rfl
              have Hho := Lib.hid hho
              generalize (oth q cur (u, v)).1 = o1 at *
              generalize (oth q cur (u, v)).2 = o2 at *
              have hb6 := below_kept Hbj.out (Nat.le_refl _) hb5
              have Hb6 := Lib.hid (hb6.alloc hb6.size (.cells #[.int .i64 o1, .int .i64 o2] 40))
              have k0 : (w5.alloc (.cells #[.int .i64 o1, .int .i64 o2] 40)).cell? ⟨wr.heap.size, 0, none⟩ = some (.int .i64 u) := cell_kept ((Below.refl w5.heap.size w5).alloc (Nat.le_refl _) _) q0
              have k1 : (w5.alloc (.cells #[.int .i64 o1, .int .i64 o2] 40)).cell? ⟨wr.heap.size, 1, none⟩ = some (.int .i64 v) := cell_kept ((Below.refl w5.heap.size w5).alloc (Nat.le_refl _) _) q1
              have K0 := Lib.hid k0
              have K1 := Lib.hid k1
              clear hb5 hb6 hho g0 g1 Hbj k0 k1
              by_cases hh : o1 = a ∨ o2 = a
              · have hF : ffind q a cur = some (u, v) := Hfirst.out (by rw [Hho.out]; simpa using hh)
                have hfl : (flipL q cur (u, v)).length = m := by rw [flip_length HcT.out Hm.out, Hcl.out]
                have hdg2 := deg_flip HcT.out hF
                have hol2 : out.length < m := by have h1 := deg_le (flipL q cur (u, v)) a; have h2 := Hdeg.out; omega
                obtain ⟨f, hfu⟩ : ∃ f, q - k = f + 1 := ⟨q - k - 1, by omega⟩
                have hmath2 : (flipL q cur (u, v)).length = m ∧ Tri q (flipL q cur (u, v)) ∧ fanG q a q l = (out ++ [(u, v)]) ++ fanG q a (q - (k + 1)) (flipL q cur (u, v)) ∧ (out ++ [(u, v)]).length ≤ degAt (flipL q cur (u, v)) a := by
                  refine ⟨hfl, flip_tri HcT.out Hm.out, ?_, by rw [hdg2]; have := Hdeg.out; simp; omega⟩
                  rw [Hfan.out, hfu, fanG_some hF, List.append_assoc]
                  have : q - (k + 1) = f := by omega
                  rw [this]
                  rfl
                have hnotin : (u, v) ∉ flipL q cur (u, v) := fun hin => by
                  rcases flip_mem.1 hin with ⟨_, h2⟩ | h2
                  · exact h2 rfl
                  · have := (oth_is HcT.out Hm.out).new HcT.out Hm.out
                    rw [← h2] at this
                    exact this Hm.out
                have Hm2 := Lib.hid hmath2
                have Hnot := Lib.hid hnotin
                have Hfl := Lib.hid hfl
                clear hF hfl hdg2 hfu hmath2 hnotin Hho Hfirst Hno Hfan Hdeg
                rcases Classical.em (o1 = a) with e1 | e1
                · subst e1
                  go_wp2_with fail
                  with_reducible refine (spec_flMake q _ m cc wo.heap.size cur u v _ (HS.out.below Hb6.out) Hcl.out Hb6.out.size HcT.out Hm.out).mono ?_
                  rintro e w6 ⟨A6, c6, rfl, ho6, hb6'⟩
                  rw [Hfl.out] at ho6 ⊢
                  have hb7 := below_kept Hb6.out (Nat.le_refl _) hb6'
                  have r0 := cell_kept hb6' K0.out
                  have r1 := cell_kept hb6' K1.out
                  have hO6 := own_kept HO.out hb7
                  have hA6 := own_addr ho6
                  have hOb := HO.out.lt
                  have hsz6 : wo.heap.size ≤ (w5.alloc (.cells #[.int .i64 o1, .int .i64 o2] 40)).heap.size := Hb6.out.size
                  have hne6 : ∀ k, (Value.slice A6 m c6).ownBlock = some k → some k ≠ (Value.slice Ao out.length co).ownBlock := fun k hk e => by
                    have h1 := (ho6.lt k hk).1
                    have h2 := (hOb k e.symm).2
                    omega
                  have hwr6 : wr.heap.size < w6.heap.size := World.block_lt_of_cell? w6 _ r0
                  have ho3 := hO6.alloc (.cells #[.int .i64 u, .int .i64 v] 40)
                  have hb8 := hb7.alloc hb7.size (.cells #[.int .i64 u, .int .i64 v] 40)
                  have hc8 := ho6.alloc (.cells #[.int .i64 u, .int .i64 v] 40)
                  have Hb8 := Lib.hid hb8
                  have Hc8 := Lib.hid hc8
                  have Hne6 := Lib.hid hne6
                  have hl9 : out.length ≤ 1000000 := by omega
                  have hbs : w1.heap.size ≤ (w6.alloc (.cells #[.int .i64 u, .int .i64 v] 40)).heap.size := Nat.le_trans Hb.out.size hb8.size
                  have hobl := ho3.lt
                  have Hobl := Lib.hid hobl
                  clear ho6 hb6' hb7 hO6 hA6 hOb hne6 hb8 hc8 hobl hh
                  go_wp2_with (at_builtin; refine append1Dn _ rfl _ _ rfl w1.heap.size (.slice Ao out.length co) out.length out rfl rfl ho3 w6.heap.size u v rfl ?_ ?_ hl9 hbs ?_; (simp [go_sem]); (simp [go_sem]); intro A3 c3 w9 own3 hg3)
                  have hcur9 := own_far Hc8.out hg3 Hne6.out
                  have hb9 := below_grown (below_kept Hb.out (Nat.le_refl _) Hb8.out) hg3 (Nat.le_refl _) (fun k hk => (Hobl.out k hk).1)
                  have hlen : (out ++ [(u, v)]).length = out.length + 1 := by simp
                  have hNA : 0 < m → ∀ b o, A6 = some ⟨b, o, none⟩ → some b ≠ (Value.slice A3 (out.length + 1) c3).ownBlock := fun _ b o e e2 => by
                    obtain ⟨g3, cap3, hv3, _, _⟩ := own3.form (by omega)
                    have hA3 : A3 = some ⟨g3, 0, none⟩ := by injection hv3
                    rw [hA3] at own3 e2
                    have e3 : b = g3 := by simpa [Value.ownBlock] using e2
                    subst e3
                    rw [e] at hcur9
                    have := rows_apart (j := out.length) own3 hcur9 (by simp) (by rw [Hfl.out]; exact hol2)
                    have h5 : (out ++ [(u, v)]).getD out.length (0, 0) = (u, v) := by simp
                    rw [h5] at this
                    have hgm := getD_mem (l := flipL q cur (u, v)) (k := out.length) (by rw [Hfl.out]; exact hol2)
                    rw [← this] at hgm
                    exact Hnot.out hgm
                  have HS9 := Lib.hid (SlD.of_own hcur9)
                  have HNA := Lib.hid hNA
                  have Ho9 := Lib.hid own3
                  have Hb9 := Lib.hid hb9
                  have Hlen := Lib.hid hlen
                  clear hg3 ho3 hcur9 hb9 hlen hNA own3
                  go_wp2
                  go_roundw
                  case rel => exact ⟨k + 1, flipL q cur (u, v), out ++ [(u, v)], A6, c6, A3, c3, by omega, by go_num, rfl, by rw [Hlen.out], Hm2.out, HS9.out, by rw [Hlen.out]; exact Ho9.out, by rw [Hlen.out]; exact HNA.out, Hb9.out⟩
                  case measure => simp [intOf]; omega
                · have e2 : o2 = a := hh.resolve_left e1
                  have e1' : (o1 == a) = false := by simpa using e1
                  subst e2
                  go_wp2_with fail
                  with_reducible refine (spec_flMake q _ m cc wo.heap.size cur u v _ (HS.out.below Hb6.out) Hcl.out Hb6.out.size HcT.out Hm.out).mono ?_
                  rintro e w6 ⟨A6, c6, rfl, ho6, hb6'⟩
                  rw [Hfl.out] at ho6 ⊢
                  have hb7 := below_kept Hb6.out (Nat.le_refl _) hb6'
                  have r0 := cell_kept hb6' K0.out
                  have r1 := cell_kept hb6' K1.out
                  have hO6 := own_kept HO.out hb7
                  have hA6 := own_addr ho6
                  have hOb := HO.out.lt
                  have hsz6 : wo.heap.size ≤ (w5.alloc (.cells #[.int .i64 o1, .int .i64 o2] 40)).heap.size := Hb6.out.size
                  have hne6 : ∀ k, (Value.slice A6 m c6).ownBlock = some k → some k ≠ (Value.slice Ao out.length co).ownBlock := fun k hk e => by
                    have h1 := (ho6.lt k hk).1
                    have h2 := (hOb k e.symm).2
                    omega
                  have hwr6 : wr.heap.size < w6.heap.size := World.block_lt_of_cell? w6 _ r0
                  have ho3 := hO6.alloc (.cells #[.int .i64 u, .int .i64 v] 40)
                  have hb8 := hb7.alloc hb7.size (.cells #[.int .i64 u, .int .i64 v] 40)
                  have hc8 := ho6.alloc (.cells #[.int .i64 u, .int .i64 v] 40)
                  have Hb8 := Lib.hid hb8
                  have Hc8 := Lib.hid hc8
                  have Hne6 := Lib.hid hne6
                  have hl9 : out.length ≤ 1000000 := by omega
                  have hbs : w1.heap.size ≤ (w6.alloc (.cells #[.int .i64 u, .int .i64 v] 40)).heap.size := Nat.le_trans Hb.out.size hb8.size
                  have hobl := ho3.lt
                  have Hobl := Lib.hid hobl
                  clear ho6 hb6' hb7 hO6 hA6 hOb hne6 hb8 hc8 hobl hh
                  go_wp2_with (at_builtin; refine append1Dn _ rfl _ _ rfl w1.heap.size (.slice Ao out.length co) out.length out rfl rfl ho3 w6.heap.size u v rfl ?_ ?_ hl9 hbs ?_; (simp [go_sem]); (simp [go_sem]); intro A3 c3 w9 own3 hg3)
                  have hcur9 := own_far Hc8.out hg3 Hne6.out
                  have hb9 := below_grown (below_kept Hb.out (Nat.le_refl _) Hb8.out) hg3 (Nat.le_refl _) (fun k hk => (Hobl.out k hk).1)
                  have hlen : (out ++ [(u, v)]).length = out.length + 1 := by simp
                  have hNA : 0 < m → ∀ b o, A6 = some ⟨b, o, none⟩ → some b ≠ (Value.slice A3 (out.length + 1) c3).ownBlock := fun _ b o e e2 => by
                    obtain ⟨g3, cap3, hv3, _, _⟩ := own3.form (by omega)
                    have hA3 : A3 = some ⟨g3, 0, none⟩ := by injection hv3
                    rw [hA3] at own3 e2
                    have e3 : b = g3 := by simpa [Value.ownBlock] using e2
                    subst e3
                    rw [e] at hcur9
                    have := rows_apart (j := out.length) own3 hcur9 (by simp) (by rw [Hfl.out]; exact hol2)
                    have h5 : (out ++ [(u, v)]).getD out.length (0, 0) = (u, v) := by simp
                    rw [h5] at this
                    have hgm := getD_mem (l := flipL q cur (u, v)) (k := out.length) (by rw [Hfl.out]; exact hol2)
                    rw [← this] at hgm
                    exact Hnot.out hgm
                  have HS9 := Lib.hid (SlD.of_own hcur9)
                  have HNA := Lib.hid hNA
                  have Ho9 := Lib.hid own3
                  have Hb9 := Lib.hid hb9
                  have Hlen := Lib.hid hlen
                  clear hg3 ho3 hcur9 hb9 hlen hNA own3
                  go_wp2
                  go_roundw
                  case rel => exact ⟨k + 1, flipL q cur (u, v), out ++ [(u, v)], A6, c6, A3, c3, by omega, by go_num, rfl, by rw [Hlen.out], Hm2.out, HS9.out, by rw [Hlen.out]; exact Ho9.out, by rw [Hlen.out]; exact HNA.out, Hb9.out⟩
                  case measure => simp [intOf]; omega
              · have e1 : (o1 == a) = false := by simpa using fun e => hh (Or.inl e)
                have e2 : (o2 == a) = false := by simpa using fun e => hh (Or.inr e)
                have hnext : ∀ i, i < j + 1 → hasAt (oth q cur (cur.getD i (0, 0))) a = false := fun i hi => by
                  by_cases e : i = j
                  · subst e; rw [Hdd.out, Hho.out]; simpa using hh
                  · exact Hno.out i (by omega)
                have Hnext := Lib.hid hnext
                clear hnext hh
                go_wp2
                go_roundw
                case rel => exact ⟨j + 1, by omega, by go_num, rfl, rfl, Hnext.out, Hb6.out⟩
                case measure => simp [intOf]; omega
            · obtain rfl : j = m := by omega
              have hN := ffind_no Hcl.out Hno.out
              have hfan2 : fanG q a q l = out ++ fanG q a (q - (k + 1)) cur := by rw [Hfan.out, fanG_none hN, fanG_none hN]
              have Hfan2 := Lib.hid hfan2
              have HO2 := Lib.hid (own_kept HO.out hbj)
              have HS2 := Lib.hid ((HS.out.below hbj).mono hbj.size)
              have Hb2 := Lib.hid (below_kept Hb.out (Nat.le_refl _) hbj)
              clear hN hfan2 hbj HO HS Hb
              go_wp2
              go_roundw
              case rel => exact ⟨k + 1, cur, out, Ac, cc, Ao, co, by omega, by go_num, rfl, rfl, ⟨Hcl.out, HcT.out, Hfan2.out, Hdeg.out⟩, HS2.out, HO2.out, HA.out, Hb2.out⟩
              case measure => simp [intOf]; omega
        · obtain rfl : k = q := by omega
          have hfin := hmath.2.2.1
          rw [Nat.sub_self, show fanG k a 0 cur = [] from rfl, List.append_nil] at hfin
          have hres : RetD w (ffR k l a) (triB k l && decide (0 ≤ a ∧ a ≤ (k : Int) - 1)) (.returned (.tuple #[.slice Ao out.length co, .bool true])) wr := by
            rw [HE.out, E0.out, hfin]
            exact ⟨Ao, co, rfl, hO.mono Hb1.out.size, below_kept Hb1.out (Nat.le_refl _) hb⟩
          have Hres := Lib.hid hres
          clear hres hS hO hA hb hfin hmath
          go_wp2
          go_ret2
          exact Hres.out
    · have e1 : decide (0 ≤ a ∧ a ≤ (q : Int) - 1) = false := by simpa using hc
      have Hres := Lib.hid (Hno.out (by rw [Ht.out, e1]; rfl) _ Hb1.out)
      rw [e1]
      clear hc e1
      go_wp2
      go_ret2
      exact Hres.out
end Go.Proofs.Ytbpaaoeefcebeaa
