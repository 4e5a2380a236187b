/- The sides of a triangulation's triangles, as a set: the program's sidesOf. -/
import Derived.Test.YtbpaaoeefcebeaaMapD
import Derived.Test.YtbpaaoeefcebeaaMove
import Derived.Test.YtbpaaoeefcebeaaFlipM
namespace Go.Proofs.Ytbpaaoeefcebeaa
set_option linter.unusedVariables false
open Go.RowKit

/-- the first t sides of the polygon -/
def sdA (n : Nat) (i : Nat) : Int × Int := if i + 1 = n then (0, (i : Int)) else ((i : Int), (i : Int) + 1)
def sdL (n t : Nat) : List (Int × Int) := (List.range t).map (sdA n)
theorem sdL_succ (n t : Nat) : sdL n (t + 1) = sdL n t ++ [sdA n t] := by simp [sdL, List.range_succ]
theorem sdL_mem {n : Nat} {x y : Int} (hn : 3 ≤ n) (hx : 0 ≤ x) (hxy : x < y) (hy : y < n) : (x, y) ∈ sdL n n ↔ y = x + 1 ∨ (x = 0 ∧ y = (n : Int) - 1) := by
  unfold sdL
  rw [List.mem_map]
  constructor
  · rintro ⟨i, hi, e⟩
    rw [List.mem_range] at hi
    unfold sdA at e
    split at e
    · injection e with e1 e2
      right; omega
    · injection e with e1 e2
      left; omega
  · rintro (h | ⟨h1, h2⟩)
    · obtain ⟨i, rfl⟩ := Int.eq_ofNat_of_zero_le hx
      refine ⟨i, List.mem_range.2 (by omega), ?_⟩
      unfold sdA
      rw [if_neg (by omega), h]
    · refine ⟨n - 1, List.mem_range.2 (by omega), ?_⟩
      unfold sdA
      rw [if_pos (by omega), h1, h2]
      congr 1
      omega
theorem sides_jd {n : Nat} {l : List (Int × Int)} {x y : Int} (hn : 3 ≤ n) (hx : 0 ≤ x) (hxy : x < y) (hy : y < n) : ((x, y) ∈ sdL n n ++ l) ↔ Jd n l x y := by
  rw [List.mem_append, sdL_mem hn hx hxy hy]
  unfold Jd
  constructor
  · rintro ((h | h) | h)
    · exact .inl h
    · exact .inr (.inl h)
    · exact .inr (.inr h)
  · rintro (h | h | h)
    · exact .inl (.inl h)
    · exact .inl (.inr h)
    · exact .inr h

theorem sd_join {n t : Nat} (ht : t < n) : min (t : Int) (((t : Int) + 1) % (n : Int)) = (sdA n t).1 ∧ max (t : Int) (((t : Int) + 1) % (n : Int)) = (sdA n t).2 := by
  unfold sdA
  by_cases h : t + 1 = n
  · have e : ((t : Int) + 1) % (n : Int) = 0 := by
      rw [show (t : Int) + 1 = (n : Int) by omega]; exact Int.emod_self
    rw [if_pos h, e]
    dsimp only
    omega
  · have e : ((t : Int) + 1) % (n : Int) = (t : Int) + 1 := Int.emod_eq_of_lt (by omega) (by omega)
    rw [if_neg h, e]
    dsimp only
    omega
theorem sdA_small {n t : Nat} (ht : t < n) (hn : n ≤ 12) : (0 ≤ (sdA n t).1 ∧ (sdA n t).1 ≤ 12) ∧ (0 ≤ (sdA n t).2 ∧ (sdA n t).2 ≤ 12) := by
  unfold sdA
  split <;> (dsimp only; omega)
theorem wf_small {x : Int} (h : -1000 ≤ x ∧ x ≤ 1000) : (Lit.int .i64 x).wf = true := WalkArith.wf_i64 (by omega)

set_option maxRecDepth 100000 in
set_option maxHeartbeats 3200000 in
theorem impl_sidesOf (n : Nat) (A : Option Addr) (c B q : Nat) (l : List (Int × Int)) (w : World) (hl : l.length = q) (h : SlD w B A l) (hB : B ≤ w.heap.size) (hn3 : 3 ≤ n) (hn12 : n ≤ 12) (hq : q ≤ 12) (hin : ∀ d ∈ l, (0 ≤ d.1 ∧ d.1 ≤ 12) ∧ (0 ≤ d.2 ∧ d.2 ≤ 12)) :
    Calls Try.prog 58 #[.int .i64 n, .slice A q c] w fun e w' => e = .returned (.map (some w.heap.size)) ∧ SetD w' w.heap.size (n + q) (sdL n n ++ l) ∧ Below w.heap.size w w' := by
  have hmm : ∀ (x : Int) (w : World), (Instr.makeMap 64 (some (.int .i64 x))).run Try.prog w = .ok (.map (some w.heap.size)) (w.alloc (.map #[] 0)) := fun x w => by
    simp [Instr.makeMap, run_underlying Try.underlying64, asInt, asIntOf]
  have H := Lib.hid h
  have Hl := Lib.hid hl
  have Hin := Lib.hid hin
  clear h hl hin
  go_enter Try.func58, Try.ntmps58
  go_wp2
  go_loopw [6, 13] (fun _ i wr => ∃ t : Nat, t ≤ n ∧ i = .int .i64 t ∧ SetD wr w.heap.size t (sdL n t) ∧ Below w.heap.size w wr) (fun _ i _ => n - (intOf i).toNat)
  case atStart => exact ⟨0, Nat.zero_le _, rfl, SetD.made w, (Below.refl _ _).alloc (Nat.le_refl _) _⟩
  case round =>
    obtain ⟨t, ht, rfl, hS, hb⟩ := hrel
    have hsz := hb.size
    by_cases hlt : t < n
    · have i0 : (0 : Int) ≤ (t : Int) := by omega
      have i1 : (t : Int) < (n : Int) := by omega
      have n12 : (n : Int) ≤ 12 := by omega
      have n0 : (0 : Int) < (n : Int) := by omega
      have nz : ¬ (n : Int) = 0 := by omega
      have HS := Lib.hid hS
      have Hb := Lib.hid hb
      clear hS hb
      obtain ⟨hj1, hj2⟩ := sd_join hlt
      have hsu := sdL_succ n t
      have hw := sdA_small hlt hn12
      generalize sdA n t = d at *
      obtain ⟨u, v⟩ := d
      dsimp only at hj1 hj2 hw
      have Hsu := Lib.hid hsu
      have Hj1 := Lib.hid hj1
      have Hj2 := Lib.hid hj2
      clear hsu hj1 hj2
      go_wp2_with fail
      refine (impl_join _ _ _).mono ?_
      rintro e w1 ⟨rfl, b1⟩
      rw [Hj1.out, Hj2.out]
      have hS1 := HS.out.below b1
      have hb1 := below_kept Hb.out (Nat.le_refl _) b1
      have wu := wf_small (x := u) (by omega)
      have wv := wf_small (x := v) (by omega)
      clear b1
      go_wp2_with (at_mapUpdate; refine wpList_setD _ rfl _ _ _ rfl w.heap.size t (sdL n t) rfl hS1 (by omega) u v rfl rfl wu wv ?_; intro w2 hS2 hg2)
      have hb2 := below_grown hb1 hg2 (Nat.le_refl _) (fun k hk => by injection hk with hk; omega)
      rw [← Hsu.out] at hS2
      have HS2 := Lib.hid hS2
      have Hb2 := Lib.hid hb2
      clear hS2 hb2 hg2 hS1 hb1
      go_wp2
      go_roundw
      case rel => exact ⟨t + 1, by omega, by go_num, HS2.out, Hb2.out⟩
      case measure => simp [intOf]; omega
    · obtain rfl : t = n := by omega
      have HS := Lib.hid hS
      have Hb := Lib.hid hb
      clear hS hb
      go_wp2
      obtain ⟨wo, hwo⟩ : ∃ wo : World, wo = wr := ⟨_, rfl⟩
      subst hwo
      go_loopw [8, 26] (fun _ i wr => ∃ k : Nat, k ≤ q ∧ i = .int .i64 k ∧ SetD wr w.heap.size (t + k) (sdL t t ++ l.take k) ∧ Below w.heap.size w wr) (fun _ i _ => q - (intOf i).toNat)
      case atStart => exact ⟨0, Nat.zero_le _, rfl, by rw [List.take_zero, List.append_nil]; exact HS.out, Hb.out⟩
      case round =>
        clear HS Hb
        obtain ⟨k, hk, rfl, hS, hb⟩ := hrel
        have hsz := hb.size
        by_cases hlt : k < q
        · have hkl : k < l.length := by rw [Hl.out]; exact hlt
          obtain ⟨b0, off, rfl, hbB, hc⟩ := H.out.below (hb.mono hB) (by omega)
          obtain ⟨g0, g1⟩ := hc k hkl
          have i0 : (0 : Int) ≤ (k : Int) := by omega
          have i1 : (k : Int) < (q : Int) := by omega
          have hw := Hin.out (l.getD k (0, 0)) (by
            have e : l.getD k (0, 0) = l[k] := by simp [hkl]
            rw [e]; exact List.getElem_mem hkl)
          have hst : l.take (k + 1) = l.take k ++ [l.getD k (0, 0)] := by
            rw [List.take_succ_eq_append_getElem hkl]
            simp [hkl]
          generalize l.getD k (0, 0) = d at *
          obtain ⟨u, v⟩ := d
          dsimp only at g0 g1 hw
          have wu := wf_small (x := u) (by omega)
          have wv := wf_small (x := v) (by omega)
          have hS1 := hS.kept (World.grownBy_alloc wr (.cells #[.int .i64 u, .int .i64 v] 40) none) (by simp)
          have hb1 := hb.alloc hsz (.cells #[.int .i64 u, .int .i64 v] 40)
          have Hst := Lib.hid hst
          clear hc hst hS hb hw
          go_wp2_with (at_mapUpdate; refine wpList_setD _ rfl _ _ _ rfl w.heap.size (t + k) (sdL t t ++ l.take k) rfl hS1 (by omega) u v rfl rfl wu wv ?_; intro w2 hS2 hg2)
          have hb2 := below_grown hb1 hg2 (Nat.le_refl _) (fun k hk => by injection hk with hk; omega)
          rw [List.append_assoc, ← Hst.out] at hS2
          have HS2 := Lib.hid hS2
          have Hb2 := Lib.hid hb2
          clear hS2 hb2 hg2 hS1 hb1
          go_wp2
          go_roundw
          case rel => exact ⟨k + 1, by omega, by go_num, HS2.out, Hb2.out⟩
          case measure => simp [intOf]; omega
        · obtain rfl : k = q := by omega
          rw [List.take_of_length_le (by rw [Hl.out]; exact Nat.le_refl _)] at hS
          have HS := Lib.hid hS
          have Hb := Lib.hid hb
          clear hS hb
          go_wp2
          go_ret
          exact ⟨rfl, HS.out, Hb.out⟩
end Go.Proofs.Ytbpaaoeefcebeaa
