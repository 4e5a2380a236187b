/- PiecesOfCut: the model's contract, and the law's walk. -/
import Derived.Test.YtlnnnjnboknoeaaPocI
import Derived.Test.YtlnnnjnboknoeaaCupS
import Derived.Test.YtlnnnjnboknoeaaPiecesOfCutC
namespace Go.Proofs.Ytlnnnjnboknoeaa
set_option linter.unusedVariables false
open Go.RowKit

theorem pcL_facts {n : Nat} {l : List (Int × Int)} (h : cutB (n : Int) l = true) : (pcL n l).length = l.length + 1 ∧ ∀ P ∈ pcL n l, P.length ≤ n ∧ 3 ≤ P.length := by
  obtain ⟨Ls, _, h2, h3, h4⟩ := cut_pieces h
  exact ⟨by rw [← h3.length_eq, h2], fun P hP => h4 P (h3.mem_iff.2 hP)⟩
theorem pcR_bd (n : Int) (l : List (Int × Int)) : (pcR n l).length ≤ 10 ∧ ∀ j, j < (pcR n l).length → (rowOf (pcR n l) j).length ≤ 12 := by
  cases h : cutB n l
  · rw [pcR_no h]; exact ⟨by simp, fun j hj => by simp at hj⟩
  · obtain ⟨h3, h12, h9⟩ := cutB_len h
    obtain ⟨m, rfl⟩ := Int.eq_ofNat_of_zero_le (show 0 ≤ n by omega)
    rw [pcR_yes h]
    obtain ⟨h1, h2⟩ := pcL_facts h
    refine ⟨by omega, fun j hj => ?_⟩
    have hm : rowOf (pcL m l) j ∈ pcL m l := by
      have e : rowOf (pcL m l) j = (pcL m l)[j] := by simp [rowOf, hj]
      rw [e]; exact List.getElem_mem _
    have := (h2 _ hm).1
    omega
set_option maxHeartbeats 1600000 in
theorem spec_PiecesOfCut (n : Int) (A : Option Addr) (c B : Nat) (l : List (Int × Int)) (w : World) (h : SlD w B A l) (hB : B ≤ w.heap.size) (hl : l.length ≤ 1048576) (hlc : l.length ≤ c) :
    Calls Try.prog 20 #[.int .i64 n, .slice A l.length c] w (RdSSB w (pcR n l) (cutB n l)) := by
  have HG := Lib.hid (spec_cuGood n A c B l w h hB hl hlc)
  cases hc : cutB n l
  · rw [hc] at HG
    have HE := Lib.hid fun w' (hb : Below w.heap.size w w') => show RdSSB w (pcR n l) false (.returned (.tuple #[.slice none 0 0, .bool false])) w' from by
      rw [pcR_no hc]
      exact ⟨none, 0, rfl, fun h0 => by simp at h0, hb⟩
    clear h hc
    go_enter Try.func20, Try.ntmps20
    go_wp2_with fail
    refine HG.out.mono ?_
    rintro e w1 ⟨rfl, hb1⟩
    have HF := Lib.hid (HE.out _ hb1)
    go_wp2
    go_ret2
    exact HF.out
  · rw [hc] at HG
    obtain ⟨h3, h12, h9⟩ := cutB_len hc
    obtain ⟨m, rfl⟩ := Int.eq_ofNat_of_zero_le (show 0 ≤ n by omega)
    have HP := Lib.hid fun w1 (hb : Below w.heap.size w w1) => spec_cuPieces m A c B l.length l w1 (by omega) (by omega) rfl (by omega) (cut_nc hc).2.2.2.2.1 (h.below (hb.mono hB)) (Nat.le_trans hB hb.size)
    have HR := Lib.hid (pcR_yes hc)
    unfold GivSS at HP
    clear h hc
    go_enter Try.func20, Try.ntmps20
    go_wp2_with fail
    refine HG.out.mono ?_
    rintro e w1 ⟨rfl, hb1⟩
    go_wp2_with fail
    refine (HP.out _ hb1).mono ?_
    rintro e w2 ⟨A2, c2, rfl, hs2, hb2⟩
    have HF : Hid (RdSSB w (pcR (m : Int) l) true (.returned (.tuple #[.slice A2 (pcL m l).length c2, .bool true])) w2) := Lib.hid (by
      rw [HR.out]
      exact ⟨A2, c2, rfl, hs2.to, below_kept hb1 (Nat.le_refl _) hb2⟩)
    clear hs2 hb2
    go_wp2
    go_ret2
    exact HF.out
theorem WPiecesOfCut.walk (w : World) (n : Int) (wn : (Lit.int .i64 n).wf = true) (A : Option Addr) (c : Nat) (l : List (Int × Int)) (h : SlD w w.heap.size A l)
    (hj : l.length ≤ c ∧ c ≤ maxLen ∧ ∀ x ∈ l, (Lit.int .i64 x.1).wf = true ∧ (Lit.int .i64 x.2).wf = true) :
    Calls Try.prog 4 #[.int .i64 n, .slice A l.length c] w fun e w' => e = .returned (.bool true) ∧ Below w.heap.size w w' :=
  WPiecesOfCut.core w n A c l h hj.1 hj.2.1 (pcR n l) (cutB n l) (by have := (pcR_bd n l).1; omega) (fun j hj => by have := (pcR_bd n l).2 j hj; omega)
    (by have h1 := pre_bd (pcR n l) 12 (pcR_bd n l).2 _ (Nat.le_refl _); have h2 := (pcR_bd n l).1; omega)
    (Lib.hid fun A c w h hl hlc => spec_PiecesOfCut n A c _ l w h (Nat.le_refl _) hl hlc)
    (Lib.hid fun A c w h hl hlc => impl_PiecesOfCut n A c _ l w h (Nat.le_refl _) hl hlc)
end Go.Proofs.Ytlnnnjnboknoeaa
