/- The matrix of a list: the model's mxList. -/
import Derived.Test.YtnoddecligmjbaaMlM
import Derived.Test.YtnoddecligmjbaaContS
import Derived.Test.YtnoddecligmjbaaTimW
import Derived.Deep.DeepCutAuto
namespace Go.Proofs.Ytnoddecligmjbaa
set_option linter.unusedVariables false
open Go.RowKit

theorem retQ_mk {m : M4} {a b c d : Int} {w w' : World} (h : m = ⟨a, b, c, d⟩) (hb : Below w.heap.size w w') : RetQ m w (.returned (.agg #[.int .i64 a, .int .i64 b, .int .i64 c, .int .i64 d])) w' := by subst h; exact ⟨rfl, hb⟩
theorem mlR_some (l : List Int) (n : Nat) (hn : l.length = n) (h : 1 ≤ n) : mlR l = ⟨ctv (-1) l, -ctv (-1) (l.take (n - 1)), ctv (-1) (l.drop 1), if 1 < n then -ctv (-1) ((l.drop 1).take (n - 2)) else 0⟩ := by
  subst hn; unfold mlR; rw [if_neg (by omega)]
set_option maxRecDepth 100000 in
set_option maxHeartbeats 3200000 in
theorem spec_mxList_more (b off n c B : Nat) (l : List Int) (w : World) (hn : l.length = n) (h : SlI w B (some ⟨b, off, none⟩) l) (hB : B ≤ w.heap.size) (hsm : Small l) (hl : n ≤ 10) (h1 : 1 ≤ n) (hlc : n ≤ c) (h2 : 2 ≤ c) :
    Calls Try.prog 152 #[.slice (some ⟨b, off, none⟩) n c] w (RetQ (mlR l) w) := by
  have C1 := Lib.hid (fun w (h : SlI w B (some ⟨b, off, none⟩) l) => spec_ctValue (some ⟨b, off, none⟩) n c B l (-1) w hn (.inr rfl) h hsm hl)
  have C2 := Lib.hid (fun w (h : SlI w B (some ⟨b, off, none⟩) l) => spec_ctValue (some ⟨b, off, none⟩) (n - 1) c B (l.take (n - 1)) (-1) w (by simp; omega) (.inr rfl) (h.take _) (hsm.take _) (by omega))
  have ht : ∀ w, SlI w B (some ⟨b, off, none⟩) l → SlI w B (some ⟨b, off + 1, none⟩) (l.drop 1) := fun w h => by have := SlI.cutIf (a0 := ⟨0, 0, none⟩) h 1 (show l.length ≤ c by omega); rwa [if_neg (by omega)] at this
  have C3 := Lib.hid (fun w (h : SlI w B (some ⟨b, off, none⟩) l) => spec_ctValue (some ⟨b, off + 1, none⟩) (n - 1) (c - 1) B (l.drop 1) (-1) w (by simp; omega) (.inr rfl) (ht w h) (hsm.drop 1) (by omega))
  have C4 := Lib.hid (fun w (h : SlI w B (some ⟨b, off, none⟩) l) => spec_ctValue (some ⟨b, off + 1, none⟩) (n - 1 - 1) (c - 1) B ((l.drop 1).take (n - 2)) (-1) w (by simp; omega) (.inr rfl) ((ht w h).take _) ((hsm.drop 1).take _) (by omega))
  obtain ⟨bd1, bd2⟩ := ctv_bd9 (s := -1) (.inr rfl) (l.take (n - 1)) (hsm.take _) (by simp; omega)
  obtain ⟨bd3, bd4⟩ := ctv_bd9 (s := -1) (.inr rfl) ((l.drop 1).take (n - 2)) ((hsm.drop 1).take _) (by simp; omega)
  have HR := Lib.hid (mlR_some l n hn h1)
  generalize ctv (-1) l = v1 at *
  generalize ctv (-1) (l.take (n - 1)) = v2 at *
  generalize ctv (-1) (l.drop 1) = v3 at *
  generalize ctv (-1) ((l.drop 1).take (n - 2)) = v4 at *
  have n0 : ((n : Int) == 0) = false := by rw [beq_eq_false_iff_ne]; omega
  have n1 : (1 : Int) ≤ (n : Int) := by omega
  have n2 : (n : Int) ≤ (c : Int) := by omega
  have n3 : (0 : Int) ≤ (n : Int) - 1 := by omega
  have n4 : (n : Int) - 1 ≤ (c : Int) := by omega
  have n5 : ((n : Int) - 1).toNat = n - 1 := by omega
  have n6 : IntKind.i64.wrap ((n : Int) - 1) = (n : Int) - 1 := IntWalk.i64_in _ (by omega)
  have n7 : ¬ c = 1 := by omega
  have n10 : (n : Int) ≤ 10 := by omega
  have n11 : IntKind.i64.wrap (-v2) = -v2 := IntWalk.i64_in _ (by omega)
  have n12 : IntKind.i64.wrap (-v4) = -v4 := IntWalk.i64_in _ (by omega)
  clear bd1 bd2 bd3 bd4
  clear ht hn
  obtain ⟨R, hR⟩ : ∃ R, R = mlR l := ⟨_, rfl⟩
  rw [← hR] at HR ⊢
  clear hR
  go_enter Try.func152, Try.ntmps152
  go_upto_region 3 with fail
  obtain ⟨wa, hwa⟩ : ∃ wa, wa = w.alloc (.cells #[.int .i64 0, .int .i64 0, .int .i64 0, .int .i64 0] 76) := ⟨_, rfl⟩
  have A1 := Lib.hid (show Zb wa w.heap.size by rw [hwa]; exact Zb.new w _)
  have A3 := Lib.hid (show Below w.heap.size w wa by rw [hwa]; exact (Below.refl _ _).alloc (Nat.le_refl _) _)
  have hS := Lib.hid (h.below (A3.out.mono hB))
  have hsz : w.heap.size < wa.heap.size := A1.out.1.lt
  rw [← hwa]
  clear hwa h
  go_cut [3] (fun s3 wx => s3 = .pointer (some ⟨wa.heap.size, 0, none⟩) ∧ Bx wx wa.heap.size v1 (-v2) v3 0 ∧ Fz wx wa.heap.size ∧ Below wa.heap.size wa wx)
  case first =>
    go_region_held3 (fun w' => Below wa.heap.size wa w')
      (first | with_reducible assumption | with_reducible exact (Below.refl _ _).drew | with_reducible exact ((Below.refl _ _).alloc (Nat.le_refl _) _).drew | with_reducible exact (below_set4 (g := wa.heap.size) ((Below.refl _ _).alloc (Nat.le_refl _) _) (Nat.le_refl _)).drew | with_reducible exact below_alloc1 (by assumption) (Nat.le_refl _) _ | with_reducible exact below_set4 (by assumption) (Nat.le_refl _))
      (first
        | (go_at_call 123; (with_reducible refine (C1.out _ (hS.out.below (Below.mono (by assumption) (by have := A3.out.size; omega)))).mono ?_); rintro e w1 ⟨rfl, rfl⟩)
        | (go_at_call 123; (with_reducible refine (C2.out _ (hS.out.below (Below.mono (by assumption) (by have := A3.out.size; omega)))).mono ?_); rintro e w1 ⟨rfl, rfl⟩)
        | (go_at_call 123; (with_reducible refine (C3.out _ (hS.out.below (Below.mono (by assumption) (by have := A3.out.size; omega)))).mono ?_); rintro e w1 ⟨rfl, rfl⟩))
    all_goals go_wp2_with fail
    all_goals go_meet
    all_goals exact ⟨rfl, Bx.new wa _ v1 (-v2) v3 0, Fz.new wa _ v1 (-v2) v3 0, ((Below.refl _ _).alloc (Nat.le_refl _) _).drew⟩
  case rest =>
    obtain ⟨rfl, G1, G2, G3⟩ := hcut
    obtain ⟨gm, hgm⟩ : ∃ g, g = wa.heap.size := ⟨_, rfl⟩
    have hD := Lib.hid (A3.out.trans (G3.mono (by omega)))
    have hZ := A1.out.kept G3
    have hS2 := Lib.hid (hS.out.below (G3.mono (by have := A3.out.size; omega)))
    have yz := hZ.1.lt
    have yg := G1.lt
    have yd : w.heap.size < gm := by omega
    rw [← hgm] at G1 G2 yg ⊢
    obtain ⟨⟨z0, z1, z2, z3⟩, ⟨f0, f1, f2, f3⟩⟩ := hZ
    by_cases hn1 : 1 < n
    · have n8 : (1 : Int) ≤ (n : Int) - 1 := by omega
      have n9 : (1 : Int) < (n : Int) := by omega
      rw [if_pos hn1] at HR
      have G4 := Lib.hid G1
      have G5 := Lib.hid G2
      obtain ⟨p0, p1, p2, p3⟩ := G1
      obtain ⟨q0, q1, q2, q3⟩ := G2
      clear hgm G3 A1 A3 hS hsz
      go_wp2_with fail
      refine (C4.out _ hS2.out).mono ?_
      rintro e w1 ⟨rfl, rfl⟩
      have hE := Lib.hid (fun x0 x1 x2 x3 => retQ_mk HR.out (below_set4 (g := w.heap.size) (x0 := x0) (x1 := x1) (x2 := x2) (x3 := x3) (hD.out.setCell (p := ⟨gm, 3, none⟩) (Nat.le_of_lt yd) (.int .i64 (-v4))) (Nat.le_refl _)))
      clear C1 C2 C3 C4 HR
      go_wp2
      refine bodyPost_ret (v := .agg #[.int .i64 v1, .int .i64 (-v2), .int .i64 v3, .int .i64 (-v4)]) ?hr rfl ?hR
      case hr => simp [results, Try.results152, go_sem, z0, z1, z2, z3, Nat.ne_of_lt yd, Nat.ne_of_gt yd]
      case hR => exact hE.out _ _ _ _
    · have n9 : ¬ (1 : Int) < (n : Int) := by omega
      rw [if_neg hn1] at HR
      obtain ⟨p0, p1, p2, p3⟩ := G1
      obtain ⟨q0, q1, q2, q3⟩ := G2
      have hE := Lib.hid (fun x0 x1 x2 x3 => retQ_mk HR.out (below_set4 (g := w.heap.size) (x0 := x0) (x1 := x1) (x2 := x2) (x3 := x3) hD.out (Nat.le_refl _)))
      clear C1 C2 C3 HR hgm G3 A1 A3 hS hsz
      go_wp2
      refine bodyPost_ret (v := .agg #[.int .i64 v1, .int .i64 (-v2), .int .i64 v3, .int .i64 0]) ?hr rfl ?hR
      case hr => simp [results, Try.results152, go_sem, z0, z1, z2, z3]
      case hR => exact hE.out _ _ _ _
set_option maxRecDepth 100000 in
set_option maxHeartbeats 3200000 in
theorem spec_mxList_one (b off n B : Nat) (l : List Int) (w : World) (hn : l.length = n) (h : SlI w B (some ⟨b, off, none⟩) l) (hB : B ≤ w.heap.size) (hsm : Small l) (hl : n ≤ 10) (h1 : 1 ≤ n) (hlc : n ≤ 1) :
    Calls Try.prog 152 #[.slice (some ⟨b, off, none⟩) n 1] w (RetQ (mlR l) w) := by
  have C1 := Lib.hid (fun w (h : SlI w B (some ⟨b, off, none⟩) l) => spec_ctValue (some ⟨b, off, none⟩) n 1 B l (-1) w hn (.inr rfl) h hsm hl)
  have C2 := Lib.hid (fun w (h : SlI w B (some ⟨b, off, none⟩) l) => spec_ctValue (some ⟨b, off, none⟩) 0 1 B (l.take (n - 1)) (-1) w (by simp; omega) (.inr rfl) (h.take _) (hsm.take _) (by omega))
  have ht : ∀ w, SlI w B (some ⟨b, off, none⟩) l → SlI w B (some ⟨b, off, none⟩) (l.drop 1) := fun w h => by rw [List.drop_of_length_le (by omega)]; exact SlI.nil_
  have C3 := Lib.hid (fun w (h : SlI w B (some ⟨b, off, none⟩) l) => spec_ctValue (some ⟨b, off, none⟩) 0 0 B (l.drop 1) (-1) w (by simp; omega) (.inr rfl) (ht w h) (hsm.drop 1) (by omega))
  obtain ⟨bd1, bd2⟩ := ctv_bd9 (s := -1) (.inr rfl) (l.take (n - 1)) (hsm.take _) (by simp; omega)
  obtain ⟨bd3, bd4⟩ := ctv_bd9 (s := -1) (.inr rfl) ((l.drop 1).take (n - 2)) ((hsm.drop 1).take _) (by simp; omega)
  have HR := Lib.hid (mlR_some l n hn h1)
  generalize ctv (-1) l = v1 at *
  generalize ctv (-1) (l.take (n - 1)) = v2 at *
  generalize ctv (-1) (l.drop 1) = v3 at *
  generalize ctv (-1) ((l.drop 1).take (n - 2)) = v4 at *
  have n0 : ((n : Int) == 0) = false := by rw [beq_eq_false_iff_ne]; omega
  have n1 : (1 : Int) ≤ (n : Int) := by omega
  have n2 : (n : Int) ≤ (1 : Int) := by omega
  have n3 : (0 : Int) ≤ (n : Int) - 1 := by omega
  have n4 : (n : Int) - 1 ≤ (1 : Int) := by omega
  have n5 : ((n : Int) - 1).toNat = n - 1 := by omega
  have n6 : IntKind.i64.wrap ((n : Int) - 1) = (n : Int) - 1 := IntWalk.i64_in _ (by omega)
  have n10 : (n : Int) ≤ 10 := by omega
  have n11 : IntKind.i64.wrap (-v2) = -v2 := IntWalk.i64_in _ (by omega)
  have n12 : IntKind.i64.wrap (-v4) = -v4 := IntWalk.i64_in _ (by omega)
  clear bd1 bd2 bd3 bd4
  clear ht hn
  obtain ⟨R, hR⟩ : ∃ R, R = mlR l := ⟨_, rfl⟩
  rw [← hR] at HR ⊢
  clear hR
  go_enter Try.func152, Try.ntmps152
  go_upto_region 3 with fail
  obtain ⟨wa, hwa⟩ : ∃ wa, wa = w.alloc (.cells #[.int .i64 0, .int .i64 0, .int .i64 0, .int .i64 0] 76) := ⟨_, rfl⟩
  have A1 := Lib.hid (show Zb wa w.heap.size by rw [hwa]; exact Zb.new w _)
  have A3 := Lib.hid (show Below w.heap.size w wa by rw [hwa]; exact (Below.refl _ _).alloc (Nat.le_refl _) _)
  have hS := Lib.hid (h.below (A3.out.mono hB))
  have hsz : w.heap.size < wa.heap.size := A1.out.1.lt
  rw [← hwa]
  clear hwa h
  go_cut [3] (fun s3 wx => s3 = .pointer (some ⟨wa.heap.size, 0, none⟩) ∧ Bx wx wa.heap.size v1 (-v2) v3 0 ∧ Fz wx wa.heap.size ∧ Below wa.heap.size wa wx)
  case first =>
    go_region_held3 (fun w' => Below wa.heap.size wa w')
      (first | with_reducible assumption | with_reducible exact (Below.refl _ _).drew | with_reducible exact ((Below.refl _ _).alloc (Nat.le_refl _) _).drew | with_reducible exact (below_set4 (g := wa.heap.size) ((Below.refl _ _).alloc (Nat.le_refl _) _) (Nat.le_refl _)).drew | with_reducible exact below_alloc1 (by assumption) (Nat.le_refl _) _ | with_reducible exact below_set4 (by assumption) (Nat.le_refl _))
      (first
        | (go_at_call 123; (with_reducible refine (C1.out _ (hS.out.below (Below.mono (by assumption) (by have := A3.out.size; omega)))).mono ?_); rintro e w1 ⟨rfl, rfl⟩)
        | (go_at_call 123; (with_reducible refine (C2.out _ (hS.out.below (Below.mono (by assumption) (by have := A3.out.size; omega)))).mono ?_); rintro e w1 ⟨rfl, rfl⟩)
        | (go_at_call 123; (with_reducible refine (C3.out _ (hS.out.below (Below.mono (by assumption) (by have := A3.out.size; omega)))).mono ?_); rintro e w1 ⟨rfl, rfl⟩))
    all_goals go_wp2_with fail
    all_goals go_meet
    all_goals exact ⟨rfl, Bx.new wa _ v1 (-v2) v3 0, Fz.new wa _ v1 (-v2) v3 0, ((Below.refl _ _).alloc (Nat.le_refl _) _).drew⟩
  case rest =>
    obtain ⟨rfl, G1, G2, G3⟩ := hcut
    obtain ⟨gm, hgm⟩ : ∃ g, g = wa.heap.size := ⟨_, rfl⟩
    have hD := Lib.hid (A3.out.trans (G3.mono (by omega)))
    have hZ := A1.out.kept G3
    have hS2 := Lib.hid (hS.out.below (G3.mono (by have := A3.out.size; omega)))
    have yz := hZ.1.lt
    have yg := G1.lt
    have yd : w.heap.size < gm := by omega
    rw [← hgm] at G1 G2 yg ⊢
    obtain ⟨⟨z0, z1, z2, z3⟩, ⟨f0, f1, f2, f3⟩⟩ := hZ
    have hn1 : ¬ 1 < n := by omega
    have n9 : ¬ (1 : Int) < (n : Int) := by omega
    rw [if_neg hn1] at HR
    obtain ⟨p0, p1, p2, p3⟩ := G1
    obtain ⟨q0, q1, q2, q3⟩ := G2
    have hE := Lib.hid (fun x0 x1 x2 x3 => retQ_mk HR.out (below_set4 (g := w.heap.size) (x0 := x0) (x1 := x1) (x2 := x2) (x3 := x3) hD.out (Nat.le_refl _)))
    clear C1 C2 C3 HR hgm G3 A1 A3 hS hsz
    go_wp2
    refine bodyPost_ret (v := .agg #[.int .i64 v1, .int .i64 (-v2), .int .i64 v3, .int .i64 0]) ?hr rfl ?hR
    case hr => simp [results, Try.results152, go_sem, z0, z1, z2, z3]
    case hR => exact hE.out _ _ _ _
/-- the model's matrix of a list -/
theorem spec_mxList (A : Option Addr) (n c B : Nat) (l : List Int) (w : World) (hn : l.length = n) (h : SlI w B A l) (hB : B ≤ w.heap.size) (hsm : Small l) (hl : n ≤ 10) (hlc : n ≤ c) :
    Calls Try.prog 152 #[.slice A n c] w (RetQ (mlR l) w) := by
  by_cases h0 : n = 0
  · subst h0
    have hR : mlR l = ⟨1, 0, 0, 1⟩ := if_pos hn
    have HR := Lib.hid hR
    generalize mlR l = R at *
    clear hR h hsm hn
    go_enter Try.func152, Try.ntmps152
    go_wp2_with fail
    refine (spec_mxOne _).mono ?_
    rintro e w1 ⟨rfl, hb1⟩
    obtain ⟨hc1, hf1, hz1⟩ := bcell hb1
    have hy0 : w.heap.size < w1.heap.size := by simp at hz1; omega
    have hd := ((Below.refl w.heap.size w).alloc (Nat.le_refl _) _).trans (hb1.mono (by simp))
    clear hb1
    go_wp2
    refine bodyPost_ret (v := .agg #[.int .i64 1, .int .i64 0, .int .i64 0, .int .i64 1]) ?hr rfl ?hR
    case hr => simp [results, Try.results152, go_sem, hc1, hf1, hy0]
    case hR => exact retQ_mk HR.out (below_set4 hd (Nat.le_refl _))
  · obtain ⟨b, off, rfl, hbB, hcl⟩ := h (by omega)
    by_cases hc1 : c = 1
    · subst hc1
      exact spec_mxList_one b off n B l w hn h hB hsm hl (by omega) hlc
    · exact spec_mxList_more b off n c B l w hn h hB hsm hl (by omega) hlc (by omega)
end Go.Proofs.Ytnoddecligmjbaa
