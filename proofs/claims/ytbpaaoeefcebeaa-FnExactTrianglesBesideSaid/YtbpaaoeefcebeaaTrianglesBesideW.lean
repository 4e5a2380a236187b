/- TrianglesBeside: both sides, and the law's walk. -/
import Derived.Test.YtbpaaoeefcebeaaBesS
import Derived.Test.YtbpaaoeefcebeaaTrianglesOfW
import Derived.Test.YtbpaaoeefcebeaaTrianglesBesideC
namespace Go.Proofs.Ytbpaaoeefcebeaa
set_option linter.unusedVariables false
open Go.RowKit

theorem own_oneS (w : World) (v : Value) : (w.alloc (.cells #[v] 56)).ownsRow w.heap.size 56 1 (.slice (some ⟨w.heap.size, 0, none⟩) 1 1) 1 [v] := ⟨rfl, .inr ⟨w.heap.size, 1, #[v], rfl, Nat.le_refl _, heap_alloc_new w _, Nat.le_refl _, by decide, rfl, rfl⟩⟩

set_option maxRecDepth 100000 in
set_option maxHeartbeats 6400000 in
theorem spec_TrianglesBeside_yes (n : Nat) (A : Option Addr) (c B q : Nat) (l : List (Int × Int)) (W : World) (ht : triB n l = true) (hl : l.length = q) (h : SlD W B A l) (hB : B ≤ W.heap.size) (hlc : q ≤ c) :
    Calls Try.prog 24 #[.int .i64 n, .slice A q c] W (RetSS W (bsdR n l) (triB n l)) := by
  have hn := tri_n ht
  have HG := spec_poGood n A c B l W h hB (by omega) (by omega)
  rw [hl, ht] at HG
  have HG := Lib.hid HG
  have Htr := Lib.hid (fun (w1 : World) (hb1 : Below W.heap.size W w1) => spec_poTriangles n A c B q l w1 hl (h.below (hb1.mono hB)) (Nat.le_trans hB hb1.size) (by omega) (by omega) (by omega))
  have htr := trgR_yes ht
  have h220 := trgR_220 n l
  have hrow : ∀ j, j < (trgR n l).length → (rowOf (trgR n l) j).length = 3 := fun j hj => trgR_row n l j hj
  rw [ht]
  have hR : bsdR n l = besL (trgR n l) (trgR n l).length (trgR n l).length := rfl
  rw [hR]
  rw [← htr] at Htr
  generalize trgR n l = T at *
  have Hrow := Lib.hid hrow
  clear hrow hR h hn ht htr hl
  go_enter Try.func24, Try.ntmps24
  go_wp2_with fail
  refine HG.out.mono ?_
  rintro e w0 ⟨rfl, b0⟩
  have Htr0 := Lib.hid (Htr.out w0 b0)
  have B0 := Lib.hid b0
  clear HG Htr b0
  go_wp2_with fail
  refine Htr0.out.mono ?_
  rintro e w1 ⟨A1, c1, rs1, rfl, o1, b1⟩
  have B1 := Lib.hid (below_kept B0.out (Nat.le_refl _) b1)
  have HT := Lib.hid o1
  obtain ⟨m, hm⟩ : ∃ m, T.length = m := ⟨_, rfl⟩
  have Hm := Lib.hid hm
  rw [hm] at h220 ⊢
  clear hm o1 b1 Htr0
  go_wp2
  go_loopw [7, 8, 9, 10, 11, 12, 22] (fun v _ _ _ _ _ i wr => ∃ (k : Nat) (A' : Option Addr) (c' : Nat) (rs : List Value), k ≤ m ∧ i = .int .i64 k ∧ v = .slice A' k c' ∧ OwnSS wr w1.heap.size A' c' rs (besL T m k) ∧ Below w1.heap.size w1 wr) (fun _ _ _ _ _ _ i _ => m - (intOf i).toNat)
  case atStart => exact ⟨0, none, 0, [], Nat.zero_le _, rfl, rfl, OwnSS.nil_, Below.refl _ _⟩
  case round =>
    obtain ⟨k, A', c', rs, hk, rfl, rfl, ho, hb⟩ := hrel
    obtain ⟨wo, hwo⟩ : ∃ wo, wo = wr := ⟨_, rfl⟩
    subst hwo
    have hsz := hb.size
    have Ho := Lib.hid ho
    have Hb := Lib.hid hb
    clear ho hb
    by_cases hlt : k < m
    · have hkT : k < T.length := by rw [Hm.out]; exact hlt
      have k0 : (0 : Int) ≤ (k : Int) := by omega
      have k1 : (k : Int) < (m : Int) := by omega
      obtain ⟨g, rfl, hg1, hg2, hcell⟩ := HT.out.outer (by omega)
      have hoK := own_kept (HT.out.2.2.1 k hkT) Hb.out
      rw [Hrow.out k hkT] at hoK
      obtain ⟨Ak, ck, hvk⟩ := own_form hoK
      have hck : wo.cell? ⟨g, k, none⟩ = some (.slice Ak 3 ck) := by
        rw [Hb.out.cell (p := ⟨g, k, none⟩) hg2, hcell k hkT, hvk]
      rw [hvk] at hoK
      have HsK := Lib.hid (SlI.of_own hoK)
      have Hcell := Lib.hid hcell
      clear hoK hvk hcell
      go_wp2
      go_loopw [10, 11, 12, 29] (fun v _ _ i wr => ∃ (j d : Nat) (A2 : Option Addr) (c2 : Nat), j ≤ m ∧ i = .int .i64 j ∧ v = .slice A2 d c2 ∧ (besK T k j).length = d ∧ wr.ownsRow wo.heap.size 3 1 (.slice A2 d c2) d (ics (besK T k j)) ∧ Below wo.heap.size wo wr) (fun _ _ _ i _ => m - (intOf i).toNat)
      case atStart => exact ⟨0, 0, none, 0, Nat.zero_le _, rfl, rfl, rfl, World.ownsRow_nil _ _ _ _, Below.refl _ _⟩
      case round =>
        obtain ⟨j, d, A2, c2, hj, rfl, rfl, hd, hoR, hbR⟩ := hrel
        have hszR := hbR.size
        by_cases hjl : j < m
        · have hjT : j < T.length := by rw [Hm.out]; exact hjl
          have j0 : (0 : Int) ≤ (j : Int) := by omega
          have j1 : (j : Int) < (m : Int) := by omega
          have hbW := below_kept Hb.out (Nat.le_refl _) hbR
          have hoJ := own_kept (HT.out.2.2.1 j hjT) hbW
          rw [Hrow.out j hjT] at hoJ
          obtain ⟨Aj, cj, hvj⟩ := own_form hoJ
          have hcj : wr.cell? ⟨g, j, none⟩ = some (.slice Aj 3 cj) := by
            rw [hbW.cell (p := ⟨g, j, none⟩) hg2, Hcell.out j hjT, hvj]
          rw [hvj] at hoJ
          have hsh := spec_poShared Ak Aj 3 3 ck cj wo.heap.size wr.heap.size (rowOf T k) (rowOf T j) wr (Hrow.out k hkT) (HsK.out.below hbR) (Hrow.out j hjT) (SlI.of_own hoJ) (by omega) (by omega)
          have hself : j = k → bsOk T k j = false := fun e => by
            subst e
            unfold bsOk
            rw [shK_self, Hrow.out j hjT]
            rfl
          have hbs : bsOk T k j = decide (shK (rowOf T k) (rowOf T j) 3 = 2) := by unfold bsOk; rw [Hrow.out k hkT]
          have hdl := bes_len T k j
          have d9 : d ≤ 1000000 := by omega
          obtain ⟨sh, hshe⟩ : ∃ sh, shK (rowOf T k) (rowOf T j) 3 = sh := ⟨_, rfl⟩
          have hsh3 : sh ≤ 3 := by rw [← hshe]; exact shK_le _ _ _
          rw [hshe] at hsh hbs
          have Hsh := Lib.hid hsh
          have Hself := Lib.hid hself
          have Hbs := Lib.hid hbs
          have Hd := Lib.hid hd
          have HoR := Lib.hid hoR
          have HbR := Lib.hid hbR
          clear hbW hoJ hvj hsh hself hbs hd hoR hbR hdl hshe
          by_cases hkj : k = j
          · have HE := Lib.hid (bes_miss (Hself.out hkj.symm))
            have hne : ((k : Int) != (j : Int)) = false := by rw [bne_eq_false_iff_eq]; omega
            clear hkj
            go_wp2
            go_roundw
            case rel => exact ⟨j + 1, d, A2, c2, by omega, by go_num, rfl, by rw [HE.out]; exact Hd.out, by rw [HE.out]; exact HoR.out, HbR.out⟩
            case measure => simp [intOf]; omega
          · have hne : ((k : Int) != (j : Int)) = true := by rw [bne_iff_ne]; omega
            by_cases h2 : sh = 2
            · have HE := Lib.hid (bes_hit (T := T) (i := k) (j := j) (by rw [Hbs.out]; exact decide_eq_true h2))
              subst h2
              have own2 := HoR.out.alloc (.cells #[.int .i64 (j : Int)] 3)
              have HbA := Lib.hid (HbR.out.alloc hszR (.cells #[.int .i64 (j : Int)] 3))
              have z2 := HbA.out.size
              clear hkj
              go_wp2_with (first
                | (go_at_call 59; refine Hsh.out.mono ?_; rintro e w' ⟨rfl, rfl⟩)
                | (at_builtin; refine append1In _ rfl _ _ rfl wo.heap.size (.slice A2 d c2) d (besK T k j) Hd.out rfl own2 wr.heap.size (j : Int) rfl ?c1 d9 z2 ?_; (case c1 => simp [go_sem]); intro A3 c3 w3 own3 hg3))
              have hb3 := below_grown HbA.out hg3 (Nat.le_refl _) (fun k hk => (own2.lt k hk).1)
              rw [← HE.out] at own3
              have Own3 := Lib.hid own3
              have Hb3 := Lib.hid hb3
              have Hd3 := Lib.hid (show (besK T k (j + 1)).length = d + 1 by rw [HE.out, List.length_append, Hd.out]; rfl)
              clear own2 own3 hb3 hg3
              go_wp2
              go_roundw
              case rel => exact ⟨j + 1, d + 1, A3, c3, by omega, by go_num, rfl, Hd3.out, Own3.out, Hb3.out⟩
              case measure => simp [intOf]; omega
            · have HE := Lib.hid (bes_miss (T := T) (i := k) (j := j) (by rw [Hbs.out]; exact decide_eq_false h2))
              have h2' : ((sh : Int) == 2) = false := by rw [beq_eq_false_iff_ne]; omega
              clear hkj h2
              go_wp2_with fail
              refine Hsh.out.mono ?_
              rintro e w' ⟨rfl, rfl⟩
              go_wp2
              go_roundw
              case rel => exact ⟨j + 1, d, A2, c2, by omega, by go_num, rfl, by rw [HE.out]; exact Hd.out, by rw [HE.out]; exact HoR.out, HbR.out⟩
              case measure => simp [intOf]; omega
        · obtain rfl : j = m := by omega
          have hbl := besL_length T j k
          have hOk := Ho.out.kept hbR
          have own2 := hOk.2.1.alloc (.cells #[.slice A2 d c2] 56)
          rw [hbl] at own2
          have HbA := Lib.hid ((below_kept Hb.out (Nat.le_refl _) hbR).alloc (Nat.le_trans hsz hszR) (.cells #[.slice A2 d c2] 56))
          have z2 := HbA.out.size
          have k9 : k ≤ 1000000 := by omega
          have HOk := Lib.hid hOk
          have HoR := Lib.hid hoR
          have Hd := Lib.hid hd
          have Hbl := Lib.hid hbl
          have Hblk := Lib.hid Ho.out.blk
          clear hbl hOk hoR hd hbR
          go_wp2_with (at_builtin; refine append1SS _ rfl _ _ rfl w1.heap.size (.slice A' k c') k rs rfl own2 wr.heap.size (.slice A2 d c2) rfl rfl ?c1 k9 z2 ?_; (case c1 => simp [go_sem]); intro A3 c3 w3 own3 hg3)
          have hO3 : OwnSS w3 w1.heap.size A3 c3 (rs ++ [.slice A2 d c2]) (besL T j k ++ [besK T k j]) :=
            OwnSS.app (b := wo.heap.size) (w2 := wr) (o := .cells #[.slice A2 d c2] 56) HOk.out Hblk.out (by rw [Hd.out]; exact HoR.out.mono hsz) (fun k hk => (HoR.out.lt k hk).1) (by rw [Hbl.out]; exact own3) (by rw [Hbl.out]; exact hg3)
          rw [← besL_succ] at hO3
          have hb3 := below_grown HbA.out hg3 (Nat.le_refl _) (fun k hk => (own2.lt k hk).1)
          have HO3 := Lib.hid hO3
          have Hb3 := Lib.hid hb3
          clear own2 own3 hb3 hg3 hO3
          go_wp2
          go_roundw
          case rel => exact ⟨k + 1, A3, c3, _, by omega, by go_num, rfl, HO3.out, Hb3.out⟩
          case measure => simp [intOf]; omega
    · obtain rfl : k = m := by omega
      have hE : RetSS W (besL T T.length T.length) true (.returned (.tuple #[.slice A' k c', .bool true])) wo := by
        rw [Hm.out]
        exact ⟨A', c', rs, by rw [besL_length], Ho.out.mono B1.out.size, below_kept B1.out (Nat.le_refl _) Hb.out⟩
      have HE := Lib.hid hE
      clear hE
      go_wp2
      go_ret2
      exact HE.out

set_option maxRecDepth 100000 in
set_option maxHeartbeats 6400000 in
theorem impl_TrianglesBeside_yes (n : Nat) (A : Option Addr) (c B q : Nat) (l : List (Int × Int)) (W : World) (ht : triB n l = true) (hl : l.length = q) (h : SlD W B A l) (hB : B ≤ W.heap.size) (hlc : q ≤ c) :
    Calls Try.prog 25 #[.int .i64 n, .slice A q c] W (RetSS W (bsdR n l) (triB n l)) := by
  have Htr := impl_TrianglesOf_yes n A c B q l W ht hl h hB hlc
  have h220 := trgR_220 n l
  have hrow : ∀ j, j < (trgR n l).length → (rowOf (trgR n l) j).length = 3 := fun j hj => trgR_row n l j hj
  rw [ht] at Htr ⊢
  have hR : bsdR n l = besL (trgR n l) (trgR n l).length (trgR n l).length := rfl
  rw [hR]
  generalize trgR n l = T at *
  have Hrow := Lib.hid hrow
  have Htr := Lib.hid Htr
  obtain ⟨i0', hii, hz0, hz1, hz3⟩ := info_parts infoSl
  clear hrow hR h ht hl
  go_enter Try.func25, Try.ntmps25
  go_wp2_with fail
  refine Htr.out.mono ?_
  rintro e w1 ⟨A1, c1, rs1, rfl, o1, b1⟩
  have B1 := Lib.hid b1
  have HT := Lib.hid o1
  obtain ⟨m, hm⟩ : ∃ m, T.length = m := ⟨_, rfl⟩
  have Hm := Lib.hid hm
  rw [hm] at h220 ⊢
  have hbytes : i0'.bytes * m ≤ 281474976710656 := by rw [hz3]; omega
  have hmax : m ≤ maxLen := by unfold maxLen; omega
  clear hm o1 b1 Htr
  go_wp2_with (at_make; refine wpList_make_full _ rfl _ _ _ rfl w1.heap.size 56 i0' (.slice none 0 0) 1 Try.underlying24 hii hz0 hz1 _ _ _ _ m rfl rfl rfl rfl hbytes hmax (Nat.le_refl _) ?_; intro w3 hown3 hgrow3)
  have hb3 : Below w1.heap.size w1 w3 := (Below.refl _ _).grown hgrow3 (Nat.le_refl _) (fun _ e => by cases e)
  rw [zerosSS] at hown3
  have hO3 := OwnSS.zeros hown3
  rw [← besH_zero T m] at hO3
  have HO3 := Lib.hid hO3
  have Hb3 := Lib.hid hb3
  clear hown3 hgrow3 hb3 hO3 hii hz0 hz1 hz3 hbytes hmax
  go_wp2
  go_loopw [9, 10, 11, 12, 26] (fun _ _ _ _ i wr => ∃ (k : Nat) (rs : List Value), k ≤ m ∧ i = .int .i64 k ∧ OwnSS wr w1.heap.size (some ⟨w1.heap.size, 0, none⟩) m rs (besH T m k) ∧ (∀ t, k ≤ t → t < m → rvOf rs t = .slice none 0 0) ∧ Below w1.heap.size w1 wr) (fun _ _ _ _ i _ => m - (intOf i).toNat)
  case atStart => exact ⟨0, _, Nat.zero_le _, rfl, HO3.out, fun t _ ht => by unfold rvOf; simp [List.getD_eq_getElem?_getD, List.getElem?_replicate, ht], Hb3.out⟩
  case round =>
    clear HO3 Hb3
    obtain ⟨k, rs, hk, rfl, ho, hnil, hb⟩ := hrel
    obtain ⟨wo, hwo⟩ : ∃ wo, wo = wr := ⟨_, rfl⟩
    subst hwo
    have hsz := hb.size
    have Ho := Lib.hid ho
    have Hb := Lib.hid hb
    have Hnil := Lib.hid hnil
    clear ho hb hnil
    by_cases hlt : k < m
    · have hkT : k < T.length := by rw [Hm.out]; exact hlt
      have k0 : (0 : Int) ≤ (k : Int) := by omega
      have k1 : (k : Int) < (m : Int) := by omega
      obtain ⟨g, rfl, hg1, hg2, hcell⟩ := HT.out.outer (by omega)
      have hoK := own_kept (HT.out.2.2.1 k hkT) Hb.out
      rw [Hrow.out k hkT] at hoK
      obtain ⟨Ak, ck, hvk⟩ := own_form hoK
      have hck : wo.cell? ⟨g, k, none⟩ = some (.slice Ak 3 ck) := by
        rw [Hb.out.cell (p := ⟨g, k, none⟩) hg2, hcell k hkT, hvk]
      rw [hvk] at hoK
      have HsK := Lib.hid (SlI.of_own hoK)
      have Hcell := Lib.hid hcell
      have hrl : rs.length = m := by have := Ho.out.1; rw [besH_length] at this; exact this
      have Hrl := Lib.hid hrl
      have hout := Ho.out.2.1
      rw [besH_length] at hout
      have hset : rs.set k (.slice none 0 0) = rs := by
        apply List.ext_getElem
        · simp
        · intro i h1 h2
          rw [List.getElem_set]
          by_cases e : k = i
          · subst e
            rw [if_pos rfl]
            have := Hnil.out k (Nat.le_refl _) hlt
            unfold rvOf at this
            simp [h2] at this
            exact this.symm
          · rw [if_neg e]
      have hold : ∀ t, t < m → t ≠ k → wo.ownsRow w1.heap.size 3 1 (rvOf rs t) (rowOf (besH T m k) t).length (ics (rowOf (besH T m k) t)) := fun t ht _ => Ho.out.2.2.1 t (by rw [besH_length]; exact ht)
      have hblk : ∀ t, t < m → t ≠ k → ∀ z, (rvOf rs t).ownBlock = some z → z < wo.heap.size := fun t ht _ => Ho.out.blk t (by rw [besH_length]; exact ht)
      have hdis : ∀ s t, s < m → t < m → s ≠ t → ∀ z, (rvOf rs s).ownBlock = some z → some z ≠ (rvOf rs t).ownBlock := fun s t hs ht => Ho.out.2.2.2 s t (by rw [besH_length]; exact hs) (by rw [besH_length]; exact ht)
      have Hblk := Lib.hid hblk
      have Hdis := Lib.hid hdis
      have Hold := Lib.hid hold
      have Hout0 := Lib.hid (show wo.ownsRow w1.heap.size 56 1 (.slice (some ⟨w1.heap.size, 0, none⟩) m m) m (rs.set k (.slice none 0 0)) by rw [hset]; exact hout)
      clear hoK hvk hcell hrl hout hset hold hblk hdis
      go_wp2
      go_loopw [11, 12, 33] (fun _ _ i wr => ∃ (j d : Nat) (A2 : Option Addr) (c2 : Nat), j ≤ m ∧ i = .int .i64 j ∧ (besK T k j).length = d ∧ wr.ownsRow wo.heap.size 3 1 (.slice A2 d c2) d (ics (besK T k j)) ∧
        wr.ownsRow w1.heap.size 56 1 (.slice (some ⟨w1.heap.size, 0, none⟩) m m) m (rs.set k (.slice A2 d c2)) ∧ (∀ t, t < m → t ≠ k → wr.ownsRow w1.heap.size 3 1 (rvOf rs t) (rowOf (besH T m k) t).length (ics (rowOf (besH T m k) t))) ∧ wo.heap.size ≤ wr.heap.size ∧ Below w1.heap.size w1 wr) (fun _ _ i _ => m - (intOf i).toNat)
      case atStart => exact ⟨0, 0, none, 0, Nat.zero_le _, rfl, rfl, World.ownsRow_nil _ _ _ _, Hout0.out, Hold.out, Nat.le_refl _, Hb.out⟩
      case round =>
        clear Hout0 Hold
        obtain ⟨j, d, A2, c2, hj, rfl, hd, hoR, hout, hold, hszR, hbR⟩ := hrel
        have hsw := hbR.size
        by_cases hjl : j < m
        · have hjT : j < T.length := by rw [Hm.out]; exact hjl
          have j0 : (0 : Int) ≤ (j : Int) := by omega
          have j1 : (j : Int) < (m : Int) := by omega
          have hoK := own_kept (HT.out.2.2.1 k hkT) hbR
          rw [Hrow.out k hkT] at hoK
          obtain ⟨Ak', ck', hvk⟩ := own_form hoK
          have hAk : Ak' = Ak ∧ ck' = ck := by
            have h1 := Hcell.out k hkT
            rw [hvk] at h1
            have h2 := hck
            rw [Hb.out.cell (p := ⟨g, k, none⟩) hg2, h1] at h2
            injection h2 with h2
            injection h2 with h3 h4 h5
            exact ⟨h3, h5⟩
          obtain ⟨rfl, rfl⟩ := hAk
          rw [hvk] at hoK
          have hoJ := own_kept (HT.out.2.2.1 j hjT) hbR
          rw [Hrow.out j hjT] at hoJ
          obtain ⟨Aj, cj, hvj⟩ := own_form hoJ
          have hcj : wr.cell? ⟨g, j, none⟩ = some (.slice Aj 3 cj) := by
            rw [hbR.cell (p := ⟨g, j, none⟩) hg2, Hcell.out j hjT, hvj]
          rw [hvj] at hoJ
          have hsh := impl_countCommon Ak' Aj 3 3 ck' cj wr.heap.size wr.heap.size (rowOf T k) (rowOf T j) wr (Hrow.out k hkT) (SlI.of_own hoK) (Hrow.out j hjT) (SlI.of_own hoJ) (by omega) (by omega)
          have hbs : bsOk T k j = decide (shK (rowOf T k) (rowOf T j) 3 = 2) := by unfold bsOk; rw [Hrow.out k hkT]
          have hdl := bes_len T k j
          have d9 : d ≤ 1000000 := by omega
          obtain ⟨sh, hshe⟩ : ∃ sh, shK (rowOf T k) (rowOf T j) 3 = sh := ⟨_, rfl⟩
          have hsh3 : sh ≤ 3 := by rw [← hshe]; exact shK_le _ _ _
          rw [hshe] at hsh hbs
          have Hsh := Lib.hid hsh
          have Hbs := Lib.hid hbs
          have Hd := Lib.hid hd
          have HoR := Lib.hid hoR
          have HbR := Lib.hid hbR
          have Hout := Lib.hid hout
          have Hold := Lib.hid hold
          clear hoK hvk hoJ hvj hsh hbs hd hoR hbR hdl hshe hout hold
          by_cases h2 : sh = 2
          · have HE := Lib.hid (bes_hit (T := T) (i := k) (j := j) (by rw [Hbs.out]; exact decide_eq_true h2))
            subst h2
            have own2 := HoR.out.alloc (.cells #[.int .i64 (j : Int)] 3)
            have HbA := Lib.hid (HbR.out.alloc hsw (.cells #[.int .i64 (j : Int)] 3))
            have hzA : wo.heap.size ≤ (wr.alloc (.cells #[.int .i64 (j : Int)] 3)).heap.size := Nat.le_trans hszR (by simp)
            have hck2 : wr.cell? ⟨w1.heap.size, k, none⟩ = some (.slice A2 d c2) := by
              rw [Hout.out.cellAt k (by omega)]
              have h1 : k < (rs.set k (.slice A2 d c2)).length := by rw [List.length_set, Hrl.out]; exact hlt
              rw [List.getElem?_eq_getElem h1]
              simp
            have hgg : w1.heap.size < wr.heap.size := World.block_lt_of_cell? wr _ hck2
            have outA := Hout.out.alloc (.cells #[.int .i64 (j : Int)] 3)
            have HOldA := Lib.hid (show ∀ t, t < m → t ≠ k → (wr.alloc (.cells #[.int .i64 (j : Int)] 3)).ownsRow w1.heap.size 3 1 (rvOf rs t) (rowOf (besH T m k) t).length (ics (rowOf (besH T m k) t)) from fun t ht hne => (Hold.out t ht hne).alloc _)
            have Hfin := Lib.hid (show ∀ A3 c3 w3, w3.ownsRow wo.heap.size 3 1 (.slice A3 (d + 1) c3) (d + 1) (ics (besK T k j ++ [(j : Int)])) → (wr.alloc (.cells #[.int .i64 (j : Int)] 3)).grownBy w3 (Value.slice A2 d c2).ownBlock →
                (w3.cell? ⟨w1.heap.size, k, none⟩ = some (.slice A2 d c2) ∧ w3.frozen? ⟨w1.heap.size, k, none⟩ = false) ∧ (w3.setCell ⟨w1.heap.size, k, none⟩ (.slice A3 (d + 1) c3)).ownsRow wo.heap.size 3 1 (.slice A3 (d + 1) c3) (d + 1) (ics (besK T k (j + 1))) ∧
                (w3.setCell ⟨w1.heap.size, k, none⟩ (.slice A3 (d + 1) c3)).ownsRow w1.heap.size 56 1 (.slice (some ⟨w1.heap.size, 0, none⟩) m m) m (rs.set k (.slice A3 (d + 1) c3)) ∧
                (∀ t, t < m → t ≠ k → (w3.setCell ⟨w1.heap.size, k, none⟩ (.slice A3 (d + 1) c3)).ownsRow w1.heap.size 3 1 (rvOf rs t) (rowOf (besH T m k) t).length (ics (rowOf (besH T m k) t))) ∧ wo.heap.size ≤ (w3.setCell ⟨w1.heap.size, k, none⟩ (.slice A3 (d + 1) c3)).heap.size ∧
                Below w1.heap.size w1 (w3.setCell ⟨w1.heap.size, k, none⟩ (.slice A3 (d + 1) c3)) from fun A3 c3 w3 own3 hg3 => by
              rw [← HE.out] at own3
              have out3 := own_far outA hg3 (own_ne outA own2 (by decide))
              have old3 : ∀ t, t < m → t ≠ k → w3.ownsRow w1.heap.size 3 1 (rvOf rs t) (rowOf (besH T m k) t).length (ics (rowOf (besH T m k) t)) := fun t ht hne => own_far (HOldA.out t ht hne) hg3 (fun z hz e => by
                have h1 := Hblk.out t ht hne z hz
                have h2 := (own2.lt z e.symm).1
                omega)
              have b3 := below_grown HbA.out hg3 (Nat.le_refl _) (fun z hz => Nat.le_trans hsz (own2.lt z hz).1)
              have ck3 : w3.cell? ⟨w1.heap.size, k, none⟩ = some (.slice A2 d c2) := by
                rw [out3.cellAt k (by omega)]
                have h1 : k < (rs.set k (.slice A2 d c2)).length := by rw [List.length_set, Hrl.out]; exact hlt
                rw [List.getElem?_eq_getElem h1]
                simp
              obtain ⟨s1, s2⟩ := out3.stored k (.slice A3 (d + 1) c3)
              rw [List.set_set] at s1
              refine ⟨⟨ck3, out3.frozenAt k⟩, own_far own3 s2 (own_ne own3 out3 (by decide)), s1, fun t ht hne => own_far (old3 t ht hne) s2 (own_ne (old3 t ht hne) out3 (by decide)), ?_, ?_⟩
              · exact Nat.le_trans (Nat.le_trans hzA hg3.size) s2.size
              · exact below_grown b3 s2 (Nat.le_refl _) (fun z hz => by injection hz with hz; omega))
            clear outA
            go_wp2_with (first
              | (go_at_call 60; refine Hsh.out.mono ?_; rintro e w' ⟨rfl, rfl⟩)
              | (at_builtin; refine append1In _ rfl _ _ rfl wo.heap.size (.slice A2 d c2) d (besK T k j) Hd.out rfl own2 wr.heap.size (j : Int) rfl ?c1 d9 hzA ?_; (case c1 => simp [go_sem]); intro A3 c3 w3 own3 hg3; obtain ⟨⟨ck3, fk3⟩, hres⟩ := Hfin.out A3 c3 w3 own3 hg3; have HRES := Lib.hid hres; clear hres own3 hg3))
            have Hd3 := Lib.hid (show (besK T k (j + 1)).length = d + 1 by rw [HE.out, List.length_append, Hd.out]; rfl)
            clear own2 Hfin
            go_wp2
            go_roundw
            case rel => exact ⟨j + 1, d + 1, A3, c3, by omega, by go_num, Hd3.out, HRES.out⟩
            case measure => simp [intOf]; omega
          · have HE := Lib.hid (bes_miss (T := T) (i := k) (j := j) (by rw [Hbs.out]; exact decide_eq_false h2))
            have h2' : ((sh : Int) == 2) = false := by rw [beq_eq_false_iff_ne]; omega
            clear h2
            go_wp2_with fail
            refine Hsh.out.mono ?_
            rintro e w' ⟨rfl, rfl⟩
            go_wp2
            go_roundw
            case rel => exact ⟨j + 1, d, A2, c2, by omega, by go_num, by rw [HE.out]; exact Hd.out, by rw [HE.out]; exact HoR.out, Hout.out, Hold.out, hszR, HbR.out⟩
            case measure => simp [intOf]; omega
        · obtain rfl : j = m := by omega
          have hP := OwnSS.put (b := wo.heap.size) Hrl.out (besH_length T j k) hlt hout hold Hblk.out Hdis.out (L := besK T k j) (by rw [hd]; exact hoR.mono hsz) (fun z hz => (hoR.lt z hz).1)
          rw [besH_set] at hP
          have HP := Lib.hid hP
          have HN := Lib.hid (show ∀ t, k + 1 ≤ t → t < j → rvOf (rs.set k (.slice A2 d c2)) t = .slice none 0 0 from fun t h1 h2 => by
            rw [rvOf_set, if_neg (by omega)]
            exact Hnil.out t (by omega) h2)
          have HbR := Lib.hid hbR
          clear hP hout hold hoR hd hbR
          go_wp2
          go_roundw
          case rel => exact ⟨k + 1, _, by omega, by go_num, HP.out, HN.out, HbR.out⟩
          case measure => simp [intOf]; omega
    · obtain rfl : k = m := by omega
      have ho := Ho.out
      rw [besH_all] at ho
      have hE : RetSS W (besL T T.length T.length) true (.returned (.tuple #[.slice (some ⟨w1.heap.size, 0, none⟩) k k, .bool true])) wo := by
        rw [Hm.out]
        exact ⟨_, k, rs, by rw [besL_length], ho.mono B1.out.size, below_kept B1.out (Nat.le_refl _) Hb.out⟩
      have HE := Lib.hid hE
      clear hE ho
      go_wp2
      go_ret2
      exact HE.out

theorem spec_TrianglesBeside (n : Int) (A : Option Addr) (c B : Nat) (l : List (Int × Int)) (w : World) (h : SlD w B A l) (hB : B ≤ w.heap.size) (hl : l.length ≤ 1048576) (hlc : l.length ≤ c) :
    Calls Try.prog 24 #[.int .i64 n, .slice A l.length c] w (RetSS w (bsdR n l) (triB n l)) := by
  cases ht : triB n l
  · have HG := Lib.hid (spec_poGood n A c B l w h hB hl hlc)
    rw [ht] at HG
    have hres : ∀ w1, Below w.heap.size w w1 → RetSS w (bsdR n l) false (.returned (.tuple #[.slice none 0 0, .bool false])) w1 := fun w1 hb1 => by
      have e : bsdR n l = [] := by unfold bsdR; rw [trgR_no ht]; rfl
      rw [e]
      exact ⟨none, 0, [], rfl, OwnSS.nil_, hb1⟩
    have Hres := Lib.hid hres
    clear hres h ht
    go_enter Try.func24, Try.ntmps24
    go_wp2_with fail
    refine HG.out.mono ?_
    rintro e w1 ⟨rfl, hb1⟩
    have HX := Lib.hid (Hres.out w1 hb1)
    clear hb1 HG Hres
    go_wp2
    go_ret2
    exact HX.out
  · have hn := tri_n ht
    obtain ⟨m, rfl⟩ := Int.eq_ofNat_of_zero_le (show 0 ≤ n by omega)
    rw [← ht]
    exact spec_TrianglesBeside_yes m A c B l.length l w ht rfl h hB hlc

theorem impl_TrianglesBeside (n : Int) (A : Option Addr) (c B : Nat) (l : List (Int × Int)) (w : World) (h : SlD w B A l) (hB : B ≤ w.heap.size) (hl : l.length ≤ 1048576) (hlc : l.length ≤ c) :
    Calls Try.prog 25 #[.int .i64 n, .slice A l.length c] w (RetSS w (bsdR n l) (triB n l)) := by
  cases ht : triB n l
  · have HG := Lib.hid (impl_TrianglesOf n A c B l w h hB hl hlc)
    rw [ht] at HG
    have hres : ∀ w1, Below w.heap.size w w1 → RetSS w (bsdR n l) false (.returned (.tuple #[.slice none 0 0, .bool false])) w1 := fun w1 hb1 => by
      have e : bsdR n l = [] := by unfold bsdR; rw [trgR_no ht]; rfl
      rw [e]
      exact ⟨none, 0, [], rfl, OwnSS.nil_, hb1⟩
    have Hres := Lib.hid hres
    clear hres h ht
    go_enter Try.func25, Try.ntmps25
    go_wp2_with fail
    refine HG.out.mono ?_
    rintro e w1 ⟨A9, c9, rs9, rfl, o9, hb1⟩
    have HX := Lib.hid (Hres.out w1 hb1)
    clear hb1 HG Hres
    go_wp2
    go_ret2
    exact HX.out
  · have hn := tri_n ht
    obtain ⟨m, rfl⟩ := Int.eq_ofNat_of_zero_le (show 0 ≤ n by omega)
    rw [← ht]
    exact impl_TrianglesBeside_yes m A c B l.length l w ht rfl h hB hlc

theorem WTrianglesBeside.walk (w : World) (n : Int) (wn : (Lit.int .i64 n).wf = true) (A : Option Addr) (c : Nat) (l : List (Int × Int)) (h : SlD w w.heap.size A l)
    (hj : l.length ≤ c ∧ c ≤ maxLen ∧ ∀ x ∈ l, (Lit.int .i64 x.1).wf = true ∧ (Lit.int .i64 x.2).wf = true) :
    Calls Try.prog 4 #[.int .i64 n, .slice A l.length c] w fun e w' => e = .returned (.bool true) ∧ Below w.heap.size w w' :=
  WTrianglesBeside.core w n A c l h hj.1 hj.2.1 (bsdR n l) (triB n l) (by rw [bsdR_length]; have := trgR_220 n l; omega) (fun j hj => by have := bsdR_row n l j hj; omega) (bsdR_pre n l)
    (Lib.hid fun A c w h hl hlc => spec_TrianglesBeside n A c _ l w h (Nat.le_refl _) hl hlc)
    (Lib.hid fun A c w h hl hlc => impl_TrianglesBeside n A c _ l w h (Nat.le_refl _) hl hlc)
end Go.Proofs.Ytbpaaoeefcebeaa
