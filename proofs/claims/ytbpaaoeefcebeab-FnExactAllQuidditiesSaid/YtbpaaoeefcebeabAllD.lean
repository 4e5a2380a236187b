/- All diagonals in order, and pairs in order. -/
import Derived.Test.YtbpaaoeefcebeabApp
import Derived.Test.YtbpaaoeefcebeabLawM
import Derived.OwnWalk
namespace Go.Proofs.Ytbpaaoeefcebeab
set_option linter.unusedVariables false
open Go.RowKit

/-- the pairs of a with the numbers below m that are chosen -/
def prs (a : Nat) (p : Nat → Bool) (m : Nat) : List (Int × Int) := ((List.range m).filter p).map fun (b : Nat) => ((a : Int), (b : Int))
theorem prs_succ (a : Nat) (p : Nat → Bool) (m : Nat) : prs a p (m + 1) = prs a p m ++ (if p m = true then [((a : Int), (m : Int))] else []) := by
  unfold prs
  rw [List.range_succ, List.filter_append, List.map_append]
  cases h : p m <;> simp [h]
theorem prs_yes {a : Nat} {p : Nat → Bool} {m : Nat} (h : p m = true) : prs a p (m + 1) = prs a p m ++ [((a : Int), (m : Int))] := by rw [prs_succ, if_pos h]
theorem prs_no {a : Nat} {p : Nat → Bool} {m : Nat} (h : p m = false) : prs a p (m + 1) = prs a p m := by rw [prs_succ, if_neg (by rw [h]; simp), List.append_nil]
theorem prs_same {a : Nat} {p : Nat → Bool} {m : Nat} : ∀ d, (∀ b, m ≤ b → b < m + d → p b = false) → prs a p (m + d) = prs a p m := by
  intro d
  induction d with
  | zero => intro _; rfl
  | succ d ih =>
    intro h
    rw [← Nat.add_assoc, prs_no (h (m + d) (by omega) (by omega))]
    exact ih fun b h1 h2 => h b h1 (by omega)
theorem prs_none {a : Nat} {p : Nat → Bool} {m : Nat} (h : ∀ b, b < m → p b = false) : prs a p m = [] := by
  have := prs_same (a := a) (p := p) (m := 0) m (fun b _ hb => h b (by omega))
  rw [Nat.zero_add] at this
  rw [this]
  rfl
theorem prs_length (a : Nat) (p : Nat → Bool) (m : Nat) : (prs a p m).length ≤ m := by
  unfold prs
  rw [List.length_map]
  refine Nat.le_trans (List.length_filter_le _ _) ?_
  simp
/-- all of them, number by number -/
def rws (f : Nat → Nat → Bool) (n m : Nat) : List (Int × Int) := (List.range m).flatMap fun a => prs a (f a) n
theorem rws_succ (f : Nat → Nat → Bool) (n m : Nat) : rws f n (m + 1) = rws f n m ++ prs m (f m) n := by simp [rws, List.range_succ]
theorem rws_length (f : Nat → Nat → Bool) (n : Nat) : ∀ m, (rws f n m).length ≤ m * n := by
  intro m
  induction m with
  | zero => simp [rws]
  | succ m ih =>
    rw [rws_succ, List.length_append, Nat.succ_mul]
    have := prs_length m (f m) n
    omega
def dB (n a b : Nat) : Bool := dgB n a b
theorem dB_iff {n a b : Nat} : dB n a b = true ↔ 3 ≤ n ∧ n ≤ 12 ∧ b < n ∧ a + 2 ≤ b ∧ b + 2 ≤ n + a := by
  unfold dB dgB
  rw [decide_eq_true_eq]
  omega
theorem dB_low {n a b : Nat} (h : b < a + 2) : dB n a b = false := by
  cases hd : dB n a b
  · rfl
  · have := dB_iff.1 hd; omega
theorem dB_high {n a b : Nat} (h : n ≤ b) : dB n a b = false := by
  cases hd : dB n a b
  · rfl
  · have := dB_iff.1 hd; omega
/-- at the end of an inner loop -/
theorem prs_end {n a b : Nat} {p : Nat → Bool} (hlow : ∀ b, b < a + 2 → p b = false) (hhigh : ∀ b, n ≤ b → p b = false) (hb : n ≤ b) : prs a p b = prs a p n := by
  obtain ⟨d, rfl⟩ : ∃ d, b = n + d := ⟨b - n, by omega⟩
  exact prs_same d fun b h _ => hhigh b h
theorem take_filter {p : Int × Int → Bool} (L : List (Int × Int)) (k : Nat) (h : k < L.length) : (L.take (k + 1)).filter p = (L.take k).filter p ++ (if p (L.getD k (0, 0)) = true then [L.getD k (0, 0)] else []) := by
  rw [List.take_succ_eq_append_getElem h, List.filter_append]
  have e : L.getD k (0, 0) = L[k] := by simp [h]
  rw [e]
  cases hp : p L[k] <;> simp [hp]
theorem rws_mem {n m N : Nat} {p : Int × Int} (h : p ∈ rws (dB n) N m) : (-2000 ≤ p.1 ∧ p.1 ≤ 2000) ∧ p.1 ≤ p.2 ∧ p.2 ≤ p.1 + 20 := by
  unfold rws prs at h
  simp only [List.mem_flatMap, List.mem_map, List.mem_filter] at h
  obtain ⟨a, _, b, ⟨_, hb⟩, rfl⟩ := h
  have := dB_iff.1 hb
  dsimp only
  omega
set_option maxRecDepth 100000 in
set_option maxHeartbeats 3200000 in
theorem impl_allDiagonals (n : Nat) (w : World) (hn3 : 3 ≤ n) (hn12 : n ≤ 12) : Calls Try.prog 99 #[.int .i64 n] w (GivD w (rws (dB n) n n)) := by
  have nn : (n : Int) ≤ 12 := by omega
  have nn3 : (3 : Int) ≤ (n : Int) := by omega
  obtain ⟨R, hR⟩ : ∃ R, rws (dB n) n n = R := ⟨_, rfl⟩
  rw [hR]
  have HR := Lib.hid hR
  clear hR
  go_enter Try.func99, Try.ntmps99
  go_wp2
  go_loopw [3, 4, 5, 6, 8] (fun v _ _ _ i wr => ∃ (a : Nat) (L : List (Int × Int)) (A' : Option Addr) (c' : Nat), a ≤ n ∧ L = rws (dB n) n a ∧ i = .int .i64 a ∧ v = .slice A' L.length c' ∧ wr.ownsRow w.heap.size 65 2 (.slice A' L.length c') L.length (dcs L) ∧ Below w.heap.size w wr) (fun _ _ _ _ i _ => n - (intOf i).toNat)
  case atStart => exact ⟨0, [], none, 0, Nat.zero_le _, rfl, rfl, rfl, World.ownsRow_nil _ _ _ _, Below.refl _ _⟩
  case round =>
    obtain ⟨a, L, A', c', ha, hL, rfl, rfl, ho, hb⟩ := hrel
    obtain ⟨w0, hw0⟩ : ∃ w0, w0 = wr := ⟨_, rfl⟩
    subst hw0
    by_cases hlt : a < n
    · have a1 : (a : Int) < (n : Int) := by omega
      have a0 : (0 : Int) ≤ (a : Int) := by omega
      have Hs1 := Lib.hid hL
      have Ho := Lib.hid ho
      have Hb := Lib.hid hb
      clear hL ho hb
      go_wp2
      go_loopw [3, 5, 6] (fun v i _ wr => ∃ (b : Nat) (M : List (Int × Int)) (A' : Option Addr) (c' : Nat), a + 1 ≤ b ∧ b ≤ n ∧ M = L ++ prs a (dB n a) b ∧ i = .int .i64 b ∧ v = .slice A' M.length c' ∧ wr.ownsRow w.heap.size 65 2 (.slice A' M.length c') M.length (dcs M) ∧ Below w.heap.size w wr) (fun _ i _ _ => n + 2 - (intOf i).toNat)
      case atStart =>
        refine ⟨a + 1, L, A', c', Nat.le_refl _, hlt, ?_, by simp, rfl, Ho.out, Hb.out⟩
        rw [prs_none (fun b hb => dB_low (by omega)), List.append_nil]
      case round =>
        clear Ho Hb
        obtain ⟨b, M, A2, c2, hab, hbn, hM, rfl, rfl, ho, hb⟩ := hrel
        by_cases hbl : b < n
        · have b1 : (b : Int) < (n : Int) := by omega
          have b0 : (a : Int) + 1 ≤ (b : Int) := by omega
          have hML : M.length ≤ 1000000 := by
            have h1 := prs_length a (dB n a) b
            have h2 := rws_length (dB n) n a
            have h3 : a * n ≤ 12 * 12 := Nat.mul_le_mul (by omega) (by omega)
            rw [hM, List.length_append, Hs1.out]
            omega
          have hob := ho.lt
          have Hob := Lib.hid hob
          have hz := hb.size
          have Ho := Lib.hid ho
          have Hb := Lib.hid hb
          have HM := Lib.hid hM
          have hcall := impl_IsDiagonal (n : Int) (a : Int) (b : Int)
          have hdd : dgB (n : Int) (a : Int) (b : Int) = dB n a b := rfl
          rw [hdd] at hcall
          obtain ⟨bd, hbd⟩ : ∃ bd, dB n a b = bd := ⟨_, rfl⟩
          rw [hbd] at hcall
          have Hcall := Lib.hid hcall
          have Hbd := Lib.hid hbd
          clear hcall hdd hbd ho hb hM
          go_wp2_with fail
          refine (Hcall.out _).mono ?_
          rintro e w5 ⟨rfl, hb5⟩
          have o5 := own_kept (Ho.out.alloc (.cells #[.int .i64 (a : Int), .int .i64 (b : Int)] 65)) hb5
          have b5 := below_kept (Hb.out.alloc hz (.cells #[.int .i64 (a : Int), .int .i64 (b : Int)] 65)) (Nat.le_refl _) hb5
          have c50 : w5.cell? ⟨wr.heap.size, 0, none⟩ = some (.int .i64 (a : Int)) := (hb5.cell (p := ⟨wr.heap.size, 0, none⟩) (by simp)).trans (by simp [go_sem])
          have c51 : w5.cell? ⟨wr.heap.size, 1, none⟩ = some (.int .i64 (b : Int)) := (hb5.cell (p := ⟨wr.heap.size, 1, none⟩) (by simp)).trans (by simp [go_sem])
          have z5 : wr.heap.size < w5.heap.size := World.block_lt_of_cell? w5 _ c50
          clear hb5 Hcall Ho Hb
          cases bd
          · have hst : M = L ++ prs a (dB n a) (b + 1) := by rw [prs_no Hbd.out]; exact HM.out
            have Hst := Lib.hid hst
            have HO := Lib.hid o5
            have HB := Lib.hid b5
            clear hst o5 b5 HM
            go_wp2
            go_roundw
            case rel => exact ⟨b + 1, M, A2, c2, by omega, by omega, Hst.out, by go_num, rfl, HO.out, HB.out⟩
            case measure => simp [intOf]; omega
          · have hst : M ++ [((a : Int), (b : Int))] = L ++ prs a (dB n a) (b + 1) := by rw [prs_yes Hbd.out, ← List.append_assoc, HM.out]
            have Hst := Lib.hid hst
            have hz5 := b5.size
            have own2 := o5.alloc (.cells #[.int .i64 (a : Int), .int .i64 (b : Int)] 65)
            have hb2 := b5.alloc hz5 (.cells #[.int .i64 (a : Int), .int .i64 (b : Int)] 65)
            have hb6 := hb2.size
            have Hob5 := Lib.hid o5.lt
            clear hst o5 b5 HM Hob
            go_wp2_with (first
              | (at_builtin; refine append1Dn _ rfl _ _ rfl w.heap.size (.slice A2 M.length c2) M.length M rfl rfl own2 w5.heap.size (a : Int) (b : Int) rfl ?c1 ?c2 ?c3 hb6 ?_; (case c1 => simp [go_sem]); (case c2 => simp [go_sem]); (case c3 => omega); intro A3 c3 w3 own3 hg3))
            have hb7 := hb2.grown hg3 hb6 (fun j hj => (Hob5.out j hj).1)
            have hlen : M.length + 1 = (M ++ [((a : Int), (b : Int))]).length := by simp
            rw [hlen] at own3 ⊢
            rw [Hst.out] at own3 ⊢
            clear hg3 hb2 own2 hlen c50 c51
            generalize hMM : L ++ prs a (dB n a) (b + 1) = MM at *
            have HMM := Lib.hid hMM
            clear hMM
            go_wp2
            go_roundw
            case rel => exact ⟨b + 1, MM, A3, c3, by omega, by omega, HMM.out.symm, by go_num, rfl, own3, hb7⟩
            case measure => simp [intOf]; omega
        · have he : M = rws (dB n) n (a + 1) := by rw [rws_succ, hM, Hs1.out, prs_end (n := n) (fun b hb => dB_low hb) (fun b hb => dB_high hb) (by omega)]
          have He := Lib.hid he
          have Ho := Lib.hid ho
          have Hb := Lib.hid hb
          clear he ho hb hM
          go_wp2
          go_roundw
          case rel => exact ⟨a + 1, M, A2, c2, by omega, He.out, by go_num, rfl, Ho.out, Hb.out⟩
          case measure => simp [intOf]; omega
    · obtain rfl : a = n := by omega
      have hE : GivD w R (.returned (.slice A' L.length c')) w0 := by
        rw [← HR.out, ← hL]
        exact ⟨A', c', rfl, ho, hb⟩
      have HE := Lib.hid hE
      clear hE ho hb hL
      go_wp2
      go_ret
      exact HE.out

end Go.Proofs.Ytbpaaoeefcebeab
