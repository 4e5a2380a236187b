/- The program's PiecesOfCut. -/
import Derived.Test.YtlnnnjnboknoeaaPsS
import Derived.Test.YtlnnnjnboknoeaaCutQ
import Derived.Test.YtlnnnjnboknoeaaTriJ
namespace Go.Proofs.Ytlnnnjnboknoeaa
set_option linter.unusedVariables false
open Go.RowKit

/- nothing put in order -/
theorem insertion_nil (f : Value) (w : World) : Calls Try.prog 117 #[.slice none 0 0, .int .i64 0, .int .i64 0, f] w fun e w' => e = .returned (.tuple #[]) ∧ w = w' := by
  go_enter Try.func117, Try.ntmps117
  go_wp2
  refine wp_loop_rounds 1 ?_
  rw [rounds_succ]
  go_wp2
  go_end0
  exact ⟨rfl, rfl⟩
theorem pdqsort_nil (f : Value) (lim : Int) (w : World) : Calls Try.prog 96 #[.slice none 0 0, .int .i64 0, .int .i64 0, .int .i64 lim, f] w fun e w' => e = .returned (.tuple #[]) ∧ w = w' := by
  go_enter Try.func96, Try.ntmps96
  go_wp2
  refine wp_loop_rounds 1 ?_
  rw [rounds_succ]
  go_wp2_with fail
  refine (insertion_nil f _).mono ?_
  rintro e w1 ⟨rfl, rfl⟩
  go_wp2
  first | go_end0 | refine bodyPost_ret (results_none rfl _ _ _) rfl ?_
  exact ⟨rfl, rfl⟩
theorem bits_Len0 (w : World) : Calls Try.prog 97 #[.int .u64 0] w fun e w' => (∃ r : Int, e = .returned (.int .i64 r)) ∧ w = w' := by
  go_enter Try.func97, Try.ntmps97
  go_wp2
  go_ret
  exact ⟨⟨_, rfl⟩, rfl⟩
theorem SortFunc_nil (f : Value) (w : World) : Calls Try.prog 57 #[.slice none 0 0, f] w fun e w' => e = .returned (.tuple #[]) ∧ w = w' := by
  go_enter Try.func57, Try.ntmps57
  go_wp2_with fail
  refine (bits_Len0 _).mono ?_
  rintro e w1 ⟨⟨r, rfl⟩, rfl⟩
  go_wp2_with fail
  refine (pdqsort_nil f r _).mono ?_
  rintro e w1 ⟨rfl, rfl⟩
  go_wp2
  go_end0
  exact ⟨rfl, rfl⟩

/-- the pieces of a cut, none of another list -/
def pcR (n : Int) (l : List (Int × Int)) : List (List Int) := if cutB n l = true then pcL n.toNat l else []
theorem pcR_no {n : Int} {l : List (Int × Int)} (h : cutB n l = false) : pcR n l = [] := by unfold pcR; rw [h]; rfl
theorem pcR_yes {n : Nat} {l : List (Int × Int)} (h : cutB (n : Int) l = true) : pcR (n : Int) l = pcL n l := by unfold pcR; rw [if_pos h, Int.toNat_natCast]
theorem cutB_parts {n : Int} {l : List (Int × Int)} : cutB n l = (poB n && (ordB n l && ncTo l l.length)) := by unfold cutB; rw [uncB_split]
theorem cut_nc {n : Nat} {l : List (Int × Int)} (h : cutB (n : Int) l = true) : 3 ≤ n ∧ n ≤ 12 ∧ ordB (n : Int) l = true ∧ ncTo l l.length = true ∧ Nc n l ∧ (basesC n l).Nodup ∧ l.length + 3 ≤ n := by
  rw [cutB_parts, Bool.and_eq_true, Bool.and_eq_true, poB_iff] at h
  obtain ⟨h1, h2, h3⟩ := h
  have hn := nc_take h2 (Nat.le_refl _) h3
  have hb := bases_nodup h2 _ (Nat.le_refl _)
  rw [List.take_length] at hn hb
  exact ⟨by omega, by omega, h2, h3, hn, hb, cut_sum (by omega) h2 h3⟩
/-- the pieces of a cut, told of the list that cutApart makes -/
theorem cut_pieces {n : Nat} {l : List (Int × Int)} (h : cutB (n : Int) l = true) : ∃ Ls, cuts n l = some Ls ∧ Ls.length = l.length + 1 ∧ Ls.Perm (pcL n l) ∧ ∀ P ∈ Ls, P.length ≤ n ∧ 3 ≤ P.length := by
  obtain ⟨n3, n12, ho, hn, hnc, hnd, _⟩ := cut_nc h
  obtain ⟨Ls, h1, h2, _⟩ := cuts_some n3 ho _ (Nat.le_refl _) hn
  obtain ⟨k1, k2, k3⟩ := cuts_rows n3 ho (Nat.le_refl _) hn h1
  rw [List.take_length] at h1 h2
  exact ⟨Ls, h1, k1, h2.trans (pcL_perm hnc n3 hnd).symm, fun P hP => (k3 P hP).2⟩
theorem retPS_no {n : Int} {l : List (Int × Int)} {w w' : World} (h : cutB n l = false) (hb : Below w.heap.size w w') : RetPS w (pcR n l) (cutB n l) (.returned (.tuple #[.slice none 0 0, .bool false])) w' := by
  rw [pcR_no h, h]
  exact ⟨none, 0, [], rfl, OwnPS.nil_, hb⟩

/-- diagonals in order are few -/
theorem ord_len {n : Nat} {l : List (Int × Int)} (h : ordB (n : Int) l = true) (hn : n ≤ 12) : l.length ≤ 200 := by
  have key : ∀ i : Nat, (hi : i < l.length) → (i : Int) ≤ l[i].1 * 12 + l[i].2 ∧ 0 ≤ l[i].1 ∧ 0 ≤ l[i].2 ∧ l[i].1 ≤ 11 ∧ l[i].2 ≤ 11 := fun i => by
    induction i with
    | zero =>
      intro hi
      have := dgB_iff.1 (ord_at h hi).1
      omega
    | succ i ih =>
      intro hi
      have h1 := ih (by omega)
      have h2 := dgB_iff.1 (ord_at h hi).1
      have h3 := ord_lt h (j := i) (i + 1) hi (by omega)
      unfold ltB at h3
      rw [decide_eq_true_eq] at h3
      omega
  by_cases h0 : l.length = 0
  · omega
  · have := key (l.length - 1) (by omega)
    omega
set_option maxRecDepth 100000 in
set_option maxHeartbeats 1600000 in
theorem impl_PiecesOfCut_x (n : Int) (A : Option Addr) (c B : Nat) (l : List (Int × Int)) (w : World) (h : SlD w B A l) (hB : B ≤ w.heap.size) (hl : l.length ≤ 2000000) (hlc : l.length ≤ c) :
    Calls Try.prog 21 #[.int .i64 n, .slice A l.length c] w (RetPS w (pcR n l) (cutB n l)) := by
  cases hp : poB n
  · have hc : cutB n l = false := by rw [cutB_parts, hp]; rfl
    have HE := Lib.hid (retPS_no (w := w) hc (Below.refl _ _))
    clear hc h
    go_enter Try.func21, Try.ntmps21
    go_wp2_with fail
    refine (impl_isPolygon _ _ _ hp).mono ?_
    rintro e w1 ⟨rfl, rfl⟩
    go_wp2
    go_ret2
    exact HE.out
  · have hn := poB_iff.1 hp
    obtain ⟨m, rfl⟩ := Int.eq_ofNat_of_zero_le (show 0 ≤ n by omega)
    have HO := Lib.hid (impl_areInOrder_x (m : Int) A c B l w h hB hl hlc)
    cases ho : ordB (m : Int) l
    · have hc : cutB (m : Int) l = false := by rw [cutB_parts, hp, ho]; rfl
      have HE := Lib.hid fun w' hb => retPS_no (w := w) (w' := w') hc hb
      rw [ho] at HO
      clear hc h
      go_enter Try.func21, Try.ntmps21
      go_wp2_with fail
      refine (impl_isPolygon _ _ _ hp).mono ?_
      rintro e w1 ⟨rfl, rfl⟩
      go_wp2_with fail
      refine HO.out.mono ?_
      rintro e w1 ⟨rfl, hb1⟩
      have HF := Lib.hid (HE.out _ hb1)
      go_wp2
      go_ret2
      exact HF.out
    · rw [ho] at HO
      have n3 : 3 ≤ m := by omega
      have hcc : cutB (m : Int) l = ncTo l l.length := by rw [cutB_parts, hp, ho]; simp
      have his := cuts_isSome n3 ho
      rw [← hcc] at his
      have HCA := Lib.hid fun w1 (hb1 : Below w.heap.size w w1) => impl_cutApart m A c B l w1 n3 (by omega) (h.below (hb1.mono hB)) (Nat.le_trans hB hb1.size) ho (by have := ord_len ho (by omega); omega)
      clear h
      cases hc : cutB (m : Int) l
      · rw [hc] at his
        have hcn : cuts m l = none := by simpa using his
        have HE := Lib.hid fun w' hb => retPS_no (w := w) (w' := w') hc hb
        rw [hc] at HE
        rw [hcn] at HCA
        unfold CaE at HCA
        clear hcn hcc hc his
        go_enter Try.func21, Try.ntmps21
        go_wp2_with fail
        refine (impl_isPolygon _ _ _ hp).mono ?_
        rintro e w1 ⟨rfl, rfl⟩
        go_wp2_with fail
        refine HO.out.mono ?_
        rintro e w1 ⟨rfl, hb1⟩
        go_wp2_with fail
        refine (HCA.out _ hb1).mono ?_
        rintro e w2 ⟨A2, c2, rs2, rfl, o2, b2, x2⟩
        obtain ⟨rfl, rfl⟩ := x2 rfl
        have HF := Lib.hid (HE.out _ (hb1.trans (b2.mono hb1.size)))
        clear o2 b2 x2
        go_wp2_with fail
        refine (SortFunc_nil _ _).mono ?_
        rintro e w3 ⟨rfl, rfl⟩
        go_wp2
        go_ret2
        exact HF.out
      · obtain ⟨Ls, h1, h2, h3, h4⟩ := cut_pieces hc
        have hl3 := (cut_nc hc).2.2.2.2.2.2
        have hpu := fun (S : List (List Int)) (hs : S.Perm Ls) (hso : SortP S) => sortP_unique (hs.trans h3) hso (PlS_sort _ _ (Nat.le_refl _))
        have HU : Hid (∀ S : List (List Int), S.Perm Ls → SortP S → S = pcL m l) := Lib.hid hpu
        have HR := Lib.hid (pcR_yes hc)
        have hlr : ∀ j, j < l.length + 1 → (rowOf Ls j).length ≤ 1000 := fun j hj => by
          have hj' : j < Ls.length := by omega
          have := h4 (rowOf Ls j) (by simp [rowOf, hj'])
          omega
        have Hlr := Lib.hid hlr
        have H2 := Lib.hid h2
        have hpl : (pcL m l).length = l.length + 1 := by rw [← h3.length_eq, h2]
        have Hpl := Lib.hid hpl
        rw [h1] at HCA
        unfold CaE at HCA
        simp only [Option.getD_some, Option.isSome_some, h2] at HCA
        clear hcc hc his hpu hlr h1 h2 h3 h4 hpl
        go_enter Try.func21, Try.ntmps21
        go_wp2_with fail
        refine (impl_isPolygon _ _ _ hp).mono ?_
        rintro e w1 ⟨rfl, rfl⟩
        go_wp2_with fail
        refine HO.out.mono ?_
        rintro e w1 ⟨rfl, hb1⟩
        go_wp2_with fail
        refine (HCA.out _ hb1).mono ?_
        rintro e w2 ⟨A2, c2, rs2, rfl, o2, b2, _⟩
        obtain ⟨g, rfl, _, _, _⟩ := o2.outer (by rw [H2.out]; omega)
        have HS := Lib.hid (impl_SortP w1.heap.size g c2 l.length rs2 Ls w2 H2.out Hlr.out (by omega) b2.size o2)
        have hb2 := hb1.trans (b2.mono hb1.size)
        have h12 := hb1.size
        clear o2 b2
        go_wp2_with fail
        refine HS.out.mono ?_
        rintro e w3 ⟨rfl, rs3, Ls3, p3, s3, o3, b3⟩
        obtain rfl := HU.out _ p3 s3
        have HF : Hid (RetPS w (pcR (m : Int) l) true (.returned (.tuple #[.slice (some ⟨g, 0, none⟩) (l.length + 1) c2, .bool true])) w3) := Lib.hid (by
          rw [HR.out]
          exact ⟨_, c2, rs3, by rw [Hpl.out], o3.mono h12, hb2.trans (b3.mono h12)⟩)
        clear o3 b3 p3 s3
        go_wp2
        go_ret2
        exact HF.out
theorem impl_PiecesOfCut (n : Int) (A : Option Addr) (c B : Nat) (l : List (Int × Int)) (w : World) (h : SlD w B A l) (hB : B ≤ w.heap.size) (hl : l.length ≤ 1048576) (hlc : l.length ≤ c) :
    Calls Try.prog 21 #[.int .i64 n, .slice A l.length c] w (RetPS w (pcR n l) (cutB n l)) := impl_PiecesOfCut_x n A c B l w h hB (by omega) hlc
end Go.Proofs.Ytlnnnjnboknoeaa
