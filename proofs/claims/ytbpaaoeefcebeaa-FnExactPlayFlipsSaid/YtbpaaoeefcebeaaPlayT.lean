/- PlayFlips: the model's and the program's contract. -/
import Derived.Test.YtbpaaoeefcebeaaFliU
import Derived.Test.YtbpaaoeefcebeaaFliO
namespace Go.Proofs.Ytbpaaoeefcebeaa
set_option linter.unusedVariables false
open Go.RowKit

/-- flips of diagonals, one after the other -/
noncomputable def play (n : Int) : List (Int × Int) → List (Int × Int) → Option (List (Int × Int))
  | [], l => some l
  | d :: r, l => if d ∈ l then play n r (flipL n l d) else none
theorem play_at {n : Int} {fs l : List (Int × Int)} {k : Nat} (hk : k < fs.length) : play n (fs.drop k) l = if fs.getD k (0, 0) ∈ l then play n (fs.drop (k + 1)) (flipL n l (fs.getD k (0, 0))) else none := by
  rw [List.drop_eq_getElem_cons hk, getD_at hk]
  rfl
theorem play_len {n : Int} (fs : List (Int × Int)) : ∀ (l x : List (Int × Int)), Tri n l → play n fs l = some x → x.length = l.length := by
  induction fs with
  | nil => intro l x _ h; injection h with h; rw [h]
  | cons d r ih =>
    intro l x T h
    unfold play at h
    by_cases hm : d ∈ l
    · rw [if_pos hm] at h
      rw [ih _ x (flip_tri T hm) h, flip_length T hm]
    · rw [if_neg hm] at h
      cases h
noncomputable def pl (n : Int) (l fs : List (Int × Int)) : Option (List (Int × Int)) := if triB n l = true ∧ fs.length ≤ 40 then play n fs l else none
theorem pl_len (n : Int) (l fs : List (Int × Int)) : ((pl n l fs).getD []).length ≤ 1000000000 := by
  unfold pl
  by_cases h : triB n l = true ∧ fs.length ≤ 40
  · rw [if_pos h]
    cases hp : play n fs l with
    | none => simp
    | some x =>
      have T := tri_of h.1
      have := play_len fs l x T hp
      have := T.len
      have := T.n12
      simp only [Option.getD_some]
      omega
  · rw [if_neg h]; simp
def PlEnd (w : World) (o : Option (List (Int × Int))) (e : Ending) (w' : World) : Prop := RetD w (o.getD []) o.isSome e w'
theorem pl_none {w w' : World} {o : Option (List (Int × Int))} (ho : o = none) (hb : Below w.heap.size w w') : PlEnd w o (.returned (.tuple #[.slice none 0 0, .bool false])) w' := by
  subst ho
  exact retD_none hb
theorem pl_some {w w' : World} {o : Option (List (Int × Int))} {x : List (Int × Int)} {A : Option Addr} {m c : Nat} (ho : o = some x) (hx : x.length = m) (hw : w'.ownsRow w.heap.size 40 2 (.slice A m c) m (dcs x)) (hb : Below w.heap.size w w') :
    PlEnd w o (.returned (.tuple #[.slice A m c, .bool true])) w' := by
  subst ho
  subst hx
  exact ⟨A, c, rfl, hw, hb⟩

set_option maxRecDepth 100000 in
set_option maxHeartbeats 800000 in
theorem slices_CloneD0 (A : Option Addr) (c : Nat) (w : World) : Calls Try.prog 81 #[.slice A 0 c] w (GivD w []) := by
  have he : ∀ w : World, (binOp .eql 27 (.slice A 0 c) (.slice none 0 0)).run Try.prog w = .ok (.bool A.isNone) w := fun w => Lib.run_eql_slice_nil w 27 40 A 0 c 0 0 Try.underlying27
  cases A with
  | none =>
    have Hres : Hid (GivD w [] (.returned (.slice none 0 0)) w) := Lib.hid ⟨none, 0, rfl, World.ownsRow_nil _ _ _ _, Below.refl _ _⟩
    simp only [Option.isNone_none] at he
    go_enter Try.func81, Try.ntmps81
    go_wp2
    go_ret
    exact Hres.out
  | some ad =>
    simp only [Option.isNone_some] at he
    have own0 := own_made w (B := w.heap.size) (Nat.le_refl _)
    have hs : SlD (w.alloc (.cells #[] 40)) 0 (some ad) [] := SlD.nil_
    have Hs := Lib.hid hs
    clear hs
    go_enter Try.func81, Try.ntmps81
    go_wp2_with (at_builtin; refine wpList_appendN _ rfl _ _ rfl w.heap.size (.slice (some ⟨w.heap.size, 0, none⟩) 0 0) 0 [] rfl rfl own0 (some ad) 0 c [] 0 0 rfl rfl rfl Hs.out (by omega) (by omega) (by simp) ?_; intro A' c' w1 hown1 hgrow1)
    have hb1 : Below w.heap.size w w1 := ((Below.refl w.heap.size w).alloc (Nat.le_refl _) (.cells #[] 40)).grown hgrow1 (by simp) (above_blk (Nat.le_refl _))
    have hres : GivD w [] (.returned (.slice A' 0 c')) w1 := ⟨A', c', rfl, hown1, hb1⟩
    have Hres := Lib.hid hres
    clear hres hown1 hgrow1 hb1 own0
    go_wp2
    go_ret
    exact Hres.out
theorem slices_CloneDN (A : Option Addr) (n c B : Nat) (l : List (Int × Int)) (w : World) (hl : l.length = n) (h : SlD w B A l) (hB : B ≤ w.heap.size) (hn : n ≤ 1000000) :
    Calls Try.prog 81 #[.slice A n c] w (GivD w l) := by
  by_cases h0 : 0 < n
  · exact slices_CloneD A n c B l w hl h hB h0 hn
  · obtain rfl : n = 0 := by omega
    obtain rfl : l = [] := List.eq_nil_of_length_eq_zero hl
    exact slices_CloneD0 A c w

set_option maxRecDepth 100000 in
set_option maxHeartbeats 3200000 in
theorem spec_PlayFlips (n : Int) (A A2 : Option Addr) (c c2 B B2 : Nat) (l r : List (Int × Int)) (w : World) (h : SlD w B A l) (h2 : SlD w B2 A2 r) (hB : B ≤ w.heap.size) (hB2 : B2 ≤ w.heap.size) (hl : l.length ≤ 1048576) (hl2 : r.length ≤ 1048576) (hlc : l.length ≤ c) (hlc2 : r.length ≤ c2) :
    Calls Try.prog 46 #[.int .i64 n, .slice A l.length c, .slice A2 r.length c2] w (PlEnd w (pl n l r)) := by
  obtain ⟨m, hm⟩ : ∃ m, l.length = m := ⟨_, rfl⟩
  obtain ⟨m2, hm2⟩ : ∃ m2, r.length = m2 := ⟨_, rfl⟩
  have hG := spec_poGood n A c B l w h hB hl hlc
  rw [hm] at hG
  rw [hm, hm2]
  rw [hm] at hl hlc
  rw [hm2] at hl2 hlc2
  have HG := Lib.hid hG
  have H := Lib.hid h
  have H2 := Lib.hid h2
  have Hl := Lib.hid hm
  have Hr := Lib.hid hm2
  have hno : ¬(triB n l = true ∧ r.length ≤ 40) → pl n l r = none := fun h => by unfold pl; rw [if_neg h]
  have hyes : triB n l = true ∧ r.length ≤ 40 → pl n l r = play n (r.drop 0) l := fun h => by unfold pl; rw [if_pos h]; rfl
  have Hno := Lib.hid hno
  have Hyes := Lib.hid hyes
  clear h h2 hm hm2 hG hno hyes
  go_enter Try.func46, Try.ntmps46
  go_wp2_with fail
  refine HG.out.mono ?_
  rintro e w1 ⟨rfl, hb1⟩
  clear HG
  cases ht : triB n l
  · have Hres := Lib.hid (pl_none (Hno.out (fun h => by rw [ht] at h; cases h.1)) hb1)
    clear hb1
    go_wp2
    go_ret2
    exact Hres.out
  · by_cases h40 : m2 ≤ 40
    · have Hpl := Lib.hid (Hyes.out ⟨ht, by rw [Hr.out]; exact h40⟩)
      have T := tri_of ht
      obtain ⟨q, rfl⟩ := Int.eq_ofNat_of_zero_le (show 0 ≤ n by have := T.n3; omega)
      have hm9 : m ≤ 9 := by have := T.len; have := T.n12; have := Hl.out; omega
      have HT := Lib.hid T
      have Hb1 := Lib.hid hb1
      have h40' : (m2 : Int) ≤ 40 := by omega
      clear hb1 ht T Hno Hyes
      have own0 := own_made w1 (B := w1.heap.size) (Nat.le_refl _)
      have Hs0 := Lib.hid (H.out.below ((below_kept Hb1.out (Nat.le_refl _) ((Below.refl w1.heap.size w1).alloc (Nat.le_refl _) (.cells #[] 40))).mono hB))
      go_wp2_with (at_builtin; refine wpList_appendN _ rfl _ _ rfl w1.heap.size (.slice (some ⟨w1.heap.size, 0, none⟩) 0 0) 0 [] rfl rfl own0 A m c l B m (by omega) rfl Hl.out Hs0.out (by omega) (by omega) (by simp) ?_; intro AC cC wC hoC hgC)
      have hbC : Below w1.heap.size w1 wC := ((Below.refl w1.heap.size w1).alloc (Nat.le_refl _) (.cells #[] 40)).grown hgC (by simp) (above_blk (Nat.le_refl _))
      rw [List.nil_append] at hoC
      replace hoC := hoC.mono (base' := w.heap.size) Hb1.out.size
      clear hgC own0 Hs0
      have hdC := below_kept Hb1.out (Nat.le_refl _) hbC
      have HoC := Lib.hid hoC
      have HdC := Lib.hid hdC
      clear hoC hbC hdC
      go_wp2
      go_loopw [8, 25] (fun v i wr => ∃ (k : Nat) (cur : List (Int × Int)) (A' : Option Addr) (c' : Nat), k ≤ m2 ∧ i = .int .i64 k ∧ v = .slice A' m c' ∧ cur.length = m ∧ Tri q cur ∧ pl q l r = play q (r.drop k) cur ∧ wr.ownsRow w.heap.size 40 2 (.slice A' m c') m (dcs cur) ∧ Below w.heap.size w wr) (fun _ i _ => m2 - (intOf i).toNat)
      case atStart => exact ⟨0, l, _, _, Nat.zero_le _, rfl, rfl, Hl.out, HT.out, Hpl.out, HoC.out, HdC.out⟩
      case round =>
        obtain ⟨k, cur, A', c', hk, rfl, rfl, hcl, hcT, hpl, ho, hb⟩ := hrel
        have Hcl := Lib.hid hcl
        have HcT := Lib.hid hcT
        clear hcl hcT HoC HdC HT Hpl
        by_cases hlt : k < m2
        · obtain ⟨b, off, rfl, hbB, hc⟩ := H2.out.below (hb.mono hB2) (by have := Hr.out; omega)
          obtain ⟨g0, g1⟩ := hc k (by rw [Hr.out]; exact hlt)
          have i0 : (0 : Int) ≤ (k : Int) := by omega
          have i1 : (k : Int) < (m2 : Int) := by omega
          rw [play_at (by rw [Hr.out]; exact hlt)] at hpl
          generalize r.getD k (0, 0) = d at *
          obtain ⟨u, v⟩ := d
          dsimp only at g0 g1
          have Hpl := Lib.hid hpl
          have ho2 := ho.alloc (.cells #[.int .i64 u, .int .i64 v] 40)
          have hb2 := hb.alloc hb.size (.cells #[.int .i64 u, .int .i64 v] 40)
          have Ho2 := Lib.hid ho2
          have Hb2 := Lib.hid hb2
          have Hs2 := Lib.hid (SlD.of_own ho2)
          clear hc hpl ho hb ho2 hb2
          go_wp2_with fail
          refine (spec_flIn A' m c' _ cur u v _ _ Hs2.out Hcl.out (Nat.le_refl _) (by omega) rfl).mono ?_
          rintro e w5 ⟨rfl, hb5⟩
          have q0 : w5.cell? ⟨wr.heap.size, 0, none⟩ = some (.int .i64 u) := cell_kept hb5 (by simp [go_sem])
          have q1 : w5.cell? ⟨wr.heap.size, 1, none⟩ = some (.int .i64 v) := cell_kept hb5 (by simp [go_sem])
          have hwr : wr.heap.size < w5.heap.size := World.block_lt_of_cell? w5 _ q0
          have ho5 := own_kept Ho2.out hb5
          have Hb5 := Lib.hid (below_kept Hb2.out (Nat.le_refl _) hb5)
          have Hs5 := Lib.hid (SlD.of_own ho5)
          clear hb5 Ho2 Hb2 Hs2 g0 g1 ho5
          by_cases hm : (u, v) ∈ cur
          · have e1 : decide ((u, v) ∈ cur) = true := by simpa using hm
            rw [e1]
            have hpl := Hpl.out
            rw [if_pos hm] at hpl
            have Hpl2 := Lib.hid hpl
            have Hm := Lib.hid hm
            clear hpl hm e1 Hpl
            go_wp2_with fail
            refine (spec_flMake q A' m c' _ cur u v _ Hs5.out Hcl.out (Nat.le_refl _) HcT.out Hm.out).mono ?_
            rintro e w6 ⟨A6, c6, rfl, ho6, hb6⟩
            have hfl : (flipL q cur (u, v)).length = m := by rw [flip_length HcT.out Hm.out, Hcl.out]
            rw [hfl] at ho6 ⊢
            have Hfl := Lib.hid hfl
            have ho7 := ho6.mono Hb5.out.size
            have hb7 := below_kept Hb5.out (Nat.le_refl _) hb6
            have HfT := Lib.hid (flip_tri HcT.out Hm.out)
            clear ho6 hb6 hfl q0 q1
            go_wp2
            go_roundw
            case rel => exact ⟨k + 1, flipL q cur (u, v), A6, c6, by omega, by go_num, rfl, Hfl.out, HfT.out, Hpl2.out, ho7, hb7⟩
            case measure => simp [intOf]; omega
          · have e1 : decide ((u, v) ∈ cur) = false := by simpa using hm
            rw [e1]
            have hpl := Hpl.out
            rw [if_neg hm] at hpl
            have Hres := Lib.hid (pl_none hpl Hb5.out)
            clear hpl hm e1
            go_wp2
            go_ret2
            exact Hres.out
        · obtain rfl : k = m2 := by omega
          have hd0 : r.drop k = [] := List.drop_eq_nil_of_le (by rw [Hr.out]; exact Nat.le_refl _)
          rw [hd0] at hpl
          have Hres := Lib.hid (pl_some (show pl q l r = some cur from hpl) Hcl.out ho hb)
          clear hpl ho hb hd0
          go_wp2
          go_ret2
          exact Hres.out
    · have Hres := Lib.hid (pl_none (Hno.out (fun h => by have := h.2; rw [Hr.out] at this; omega)) hb1)
      have h40' : ¬(m2 : Int) ≤ 40 := by omega
      have h40'' : (m2 : Int) > 40 := by omega
      clear hb1
      go_wp2
      go_ret2
      exact Hres.out

set_option maxRecDepth 100000 in
set_option maxHeartbeats 3200000 in
theorem impl_PlayFlips (n : Int) (A A2 : Option Addr) (c c2 B B2 : Nat) (l r : List (Int × Int)) (w : World) (h : SlD w B A l) (h2 : SlD w B2 A2 r) (hB : B ≤ w.heap.size) (hB2 : B2 ≤ w.heap.size) (hl : l.length ≤ 1048576) (hl2 : r.length ≤ 1048576) (hlc : l.length ≤ c) (hlc2 : r.length ≤ c2) :
    Calls Try.prog 47 #[.int .i64 n, .slice A l.length c, .slice A2 r.length c2] w (PlEnd w (pl n l r)) := by
  obtain ⟨m, hm⟩ : ∃ m, l.length = m := ⟨_, rfl⟩
  obtain ⟨m2, hm2⟩ : ∃ m2, r.length = m2 := ⟨_, rfl⟩
  have hG := impl_IsTriangulation n A c B l w h hB hl hlc
  rw [hm] at hG
  rw [hm, hm2]
  rw [hm] at hl hlc
  rw [hm2] at hl2 hlc2
  have HG := Lib.hid hG
  have H := Lib.hid h
  have H2 := Lib.hid h2
  have Hl := Lib.hid hm
  have Hr := Lib.hid hm2
  have hno : ¬(triB n l = true ∧ r.length ≤ 40) → pl n l r = none := fun h => by unfold pl; rw [if_neg h]
  have hyes : triB n l = true ∧ r.length ≤ 40 → pl n l r = play n (r.drop 0) l := fun h => by unfold pl; rw [if_pos h]; rfl
  have Hno := Lib.hid hno
  have Hyes := Lib.hid hyes
  clear h h2 hm hm2 hG hno hyes
  go_enter Try.func47, Try.ntmps47
  go_wp2_with fail
  refine HG.out.mono ?_
  rintro e w1 ⟨rfl, hb1⟩
  clear HG
  cases ht : triB n l
  · have Hres := Lib.hid (pl_none (Hno.out (fun h => by rw [ht] at h; cases h.1)) hb1)
    clear hb1
    go_wp2
    go_ret2
    exact Hres.out
  · by_cases h40 : m2 ≤ 40
    · have Hpl := Lib.hid (Hyes.out ⟨ht, by rw [Hr.out]; exact h40⟩)
      have T := tri_of ht
      obtain ⟨q, rfl⟩ := Int.eq_ofNat_of_zero_le (show 0 ≤ n by have := T.n3; omega)
      have hm9 : m ≤ 9 := by have := T.len; have := T.n12; have := Hl.out; omega
      have HT := Lib.hid T
      have Hb1 := Lib.hid hb1
      have h40' : (m2 : Int) ≤ 40 := by omega
      clear hb1 ht T Hno Hyes
      go_wp2_with fail
      refine (slices_CloneDN A m c B l w1 Hl.out (H.out.below (Hb1.out.mono hB)) (Nat.le_trans hB Hb1.out.size) (by omega)).mono ?_
      rintro e wC ⟨AC, cC, rfl, hoC, hbC⟩
      rw [Hl.out] at hoC ⊢
      replace hoC := hoC.mono (base' := w.heap.size) Hb1.out.size
      have hdC := below_kept Hb1.out (Nat.le_refl _) hbC
      have HoC := Lib.hid hoC
      have HdC := Lib.hid hdC
      clear hoC hbC hdC
      go_wp2
      go_loopw [8, 24] (fun v i wr => ∃ (k : Nat) (cur : List (Int × Int)) (A' : Option Addr) (c' : Nat), k ≤ m2 ∧ i = .int .i64 k ∧ v = .slice A' m c' ∧ cur.length = m ∧ Tri q cur ∧ pl q l r = play q (r.drop k) cur ∧ wr.ownsRow w.heap.size 40 2 (.slice A' m c') m (dcs cur) ∧ Below w.heap.size w wr) (fun _ i _ => m2 - (intOf i).toNat)
      case atStart => exact ⟨0, l, _, _, Nat.zero_le _, rfl, rfl, Hl.out, HT.out, Hpl.out, HoC.out, HdC.out⟩
      case round =>
        obtain ⟨k, cur, A', c', hk, rfl, rfl, hcl, hcT, hpl, ho, hb⟩ := hrel
        have Hcl := Lib.hid hcl
        have HcT := Lib.hid hcT
        clear hcl hcT HoC HdC HT Hpl
        by_cases hlt : k < m2
        · obtain ⟨b, off, rfl, hbB, hc⟩ := H2.out.below (hb.mono hB2) (by have := Hr.out; omega)
          obtain ⟨g0, g1⟩ := hc k (by rw [Hr.out]; exact hlt)
          have i0 : (0 : Int) ≤ (k : Int) := by omega
          have i1 : (k : Int) < (m2 : Int) := by omega
          rw [play_at (by rw [Hr.out]; exact hlt)] at hpl
          generalize r.getD k (0, 0) = d at *
          obtain ⟨u, v⟩ := d
          dsimp only at g0 g1
          have Hpl := Lib.hid hpl
          have ho2 := ho.alloc (.cells #[.int .i64 u, .int .i64 v] 40)
          have hb2 := hb.alloc hb.size (.cells #[.int .i64 u, .int .i64 v] 40)
          have Ho2 := Lib.hid ho2
          have Hb2 := Lib.hid hb2
          have Hs2 := Lib.hid (SlD.of_own ho2)
          clear hc hpl ho hb ho2 hb2
          go_wp2_with fail
          refine (slices_ContainsD A' m c' _ cur u v _ _ Hs2.out Hcl.out (Nat.le_refl _) (by omega) rfl).mono ?_
          rintro e w5 ⟨rfl, hb5⟩
          have q0 : w5.cell? ⟨wr.heap.size, 0, none⟩ = some (.int .i64 u) := cell_kept hb5 (by simp [go_sem])
          have q1 : w5.cell? ⟨wr.heap.size, 1, none⟩ = some (.int .i64 v) := cell_kept hb5 (by simp [go_sem])
          have hwr : wr.heap.size < w5.heap.size := World.block_lt_of_cell? w5 _ q0
          have ho5 := own_kept Ho2.out hb5
          have Hb5 := Lib.hid (below_kept Hb2.out (Nat.le_refl _) hb5)
          have Hs5 := Lib.hid (SlD.of_own ho5)
          clear hb5 Ho2 Hb2 Hs2 g0 g1 ho5
          by_cases hm : (u, v) ∈ cur
          · have e1 : decide ((u, v) ∈ cur) = true := by simpa using hm
            rw [e1]
            have hpl := Hpl.out
            rw [if_pos hm] at hpl
            have Hpl2 := Lib.hid hpl
            have Hm := Lib.hid hm
            clear hpl hm e1 Hpl
            go_wp2_with fail
            refine (impl_flipped q A' m c' _ cur u v _ Hs5.out Hcl.out (Nat.le_refl _) HcT.out Hm.out).mono ?_
            rintro e w6 ⟨A6, c6, rfl, ho6, hb6⟩
            have hfl : (flipL q cur (u, v)).length = m := by rw [flip_length HcT.out Hm.out, Hcl.out]
            rw [hfl] at ho6 ⊢
            have Hfl := Lib.hid hfl
            have ho7 := ho6.mono Hb5.out.size
            have hb7 := below_kept Hb5.out (Nat.le_refl _) hb6
            have HfT := Lib.hid (flip_tri HcT.out Hm.out)
            clear ho6 hb6 hfl q0 q1
            go_wp2
            go_roundw
            case rel => exact ⟨k + 1, flipL q cur (u, v), A6, c6, by omega, by go_num, rfl, Hfl.out, HfT.out, Hpl2.out, ho7, hb7⟩
            case measure => simp [intOf]; omega
          · have e1 : decide ((u, v) ∈ cur) = false := by simpa using hm
            rw [e1]
            have hpl := Hpl.out
            rw [if_neg hm] at hpl
            have Hres := Lib.hid (pl_none hpl Hb5.out)
            clear hpl hm e1
            go_wp2
            go_ret2
            exact Hres.out
        · obtain rfl : k = m2 := by omega
          have hd0 : r.drop k = [] := List.drop_eq_nil_of_le (by rw [Hr.out]; exact Nat.le_refl _)
          rw [hd0] at hpl
          have Hres := Lib.hid (pl_some (show pl q l r = some cur from hpl) Hcl.out ho hb)
          clear hpl ho hb hd0
          go_wp2
          go_ret2
          exact Hres.out
    · have Hres := Lib.hid (pl_none (Hno.out (fun h => by have := h.2; rw [Hr.out] at this; omega)) hb1)
      have h40' : ¬(m2 : Int) ≤ 40 := by omega
      have h40'' : (m2 : Int) > 40 := by omega
      clear hb1
      go_wp2
      go_ret2
      exact Hres.out
end Go.Proofs.Ytbpaaoeefcebeaa
