/- ZigzagOf: the model's and the program's contract, and the law's walk. -/
import Derived.Test.YtjpcmkginfbkbabFanOfW
import Derived.Test.YtjpcmkginfbkbabZigzagOfC
namespace Go.Proofs.Ytjpcmkginfbkbab
set_option linter.unusedVariables false
open Go.RowKit

set_option maxRecDepth 100000 in
set_option maxHeartbeats 1600000 in
theorem spec_poZigzag (n : Nat) (w : World) (h3 : 3 ≤ n) (h12 : n ≤ 12) :
    Calls Try.prog 54 #[.int .i64 n] w (GivD w (sortD (zigL n (n - 3)))) := by
  have hm0 : (3 : Int) ≤ (n : Int) := by omega
  have hm1 : (n : Int) ≤ 12 := by omega
  go_enter Try.func54, Try.ntmps54
  go_wp2
  go_loopw [3, 4, 5] (fun v a b wr => ∃ (j : Nat) (A' : Option Addr) (c' : Nat), j ≤ n - 3 ∧ a = .int .i64 (1 + ((j / 2 : Nat) : Int)) ∧ b = .int .i64 ((n : Int) - 1 - (((j + 1) / 2 : Nat) : Int)) ∧ v = .slice A' j c' ∧ wr.ownsRow w.heap.size 53 2 (.slice A' j c') j (dcs (zigL n j)) ∧ Below w.heap.size w wr) (fun v _ _ _ => match v with | .slice _ k _ => n - k | _ => 0)
  case atStart => exact ⟨0, none, 0, Nat.zero_le _, rfl, by simp, rfl, World.ownsRow_nil _ _ _ _, Below.refl _ _⟩
  case round =>
    obtain ⟨j, A', c', hj, rfl, rfl, rfl, ho, hb⟩ := hrel
    have hob := ho.lt
    have Hob := Lib.hid hob
    have hsz := hb.size
    clear hob
    have hL2 := zigL_length n j
    by_cases hlt : j < n - 3
    · have hst := zigL_succ n j
      generalize zigL n j = L at *
      have hx : ∃ x : Int, 1 + ((j / 2 : Nat) : Int) = x := ⟨_, rfl⟩
      obtain ⟨x, hx⟩ := hx
      obtain ⟨y, hy⟩ : ∃ y : Int, (n : Int) - 1 - (((j + 1) / 2 : Nat) : Int) = y := ⟨_, rfl⟩
      rw [hx, hy] at hst ⊢
      have x0 : 0 ≤ x := by omega
      have x1 : x ≤ 12 := by omega
      have y0 : 0 ≤ y := by omega
      have y1 : y ≤ 12 := by omega
      have own2 := ho.alloc (.cells #[.int .i64 x, .int .i64 y] 53)
      have hb2 := hb.alloc hsz (.cells #[.int .i64 x, .int .i64 y] 53)
      have hb6 := hb2.size
      have hcnt : (j : Int) < (n : Int) - 3 := by omega
      have Hst := Lib.hid hst
      have HL2 := Lib.hid hL2
      have Hx := Lib.hid hx
      have Hy := Lib.hid hy
      clear hst hL2 hx hy ho hb
      by_cases hp : j % 2 = 0
      · have hpar : ((((j : Int) + 1) % 2) == 1) = true := by
          have : ((j : Int) + 1) % 2 = 1 := by omega
          simpa using this
        have nx : 1 + (((j + 1) / 2 : Nat) : Int) = x := by have := Hx.out; omega
        have ny : (n : Int) - 1 - (((j + 1 + 1) / 2 : Nat) : Int) = y - 1 := by have := Hy.out; omega
        have Nx := Lib.hid nx
        have Ny := Lib.hid ny
        have Hp := Lib.hid hp
        clear nx ny hp
        go_wp2_with (at_builtin; refine append1Dn _ rfl _ _ rfl w.heap.size (.slice A' j c') j L HL2.out rfl own2 wr.heap.size x y rfl ?c1 ?c2 ?c3 hb6 ?_; (case c1 => simp [go_sem]); (case c2 => simp [go_sem]); (case c3 => omega); intro A3 c3 w3 own3 hg3)
        have hb7 := hb2.grown hg3 hb6 (fun j hj => (Hob.out j hj).1)
        rw [← Hst.out] at own3
        clear hg3 hb2 own2
        go_wp2
        go_roundw
        case rel => exact ⟨j + 1, A3, c3, by omega, by rw [Nx.out], by rw [Ny.out], rfl, own3, hb7⟩
        case measure => simp; omega
      · have hpar : ((((j : Int) + 1) % 2) == 1) = false := by
          have : ((j : Int) + 1) % 2 ≠ 1 := by omega
          simpa using this
        have nx : 1 + (((j + 1) / 2 : Nat) : Int) = x + 1 := by have := Hx.out; omega
        have ny : (n : Int) - 1 - (((j + 1 + 1) / 2 : Nat) : Int) = y := by have := Hy.out; omega
        have Nx := Lib.hid nx
        have Ny := Lib.hid ny
        have Hp := Lib.hid hp
        clear nx ny hp
        go_wp2_with (at_builtin; refine append1Dn _ rfl _ _ rfl w.heap.size (.slice A' j c') j L HL2.out rfl own2 wr.heap.size x y rfl ?c4 ?c5 ?c6 hb6 ?_; (case c4 => simp [go_sem]); (case c5 => simp [go_sem]); (case c6 => omega); intro A3 c3 w3 own3 hg3)
        have hb7 := hb2.grown hg3 hb6 (fun j hj => (Hob.out j hj).1)
        rw [← Hst.out] at own3
        clear hg3 hb2 own2
        go_wp2
        go_roundw
        case rel => exact ⟨j + 1, A3, c3, by omega, by rw [Nx.out], by rw [Ny.out], rfl, own3, hb7⟩
        case measure => simp; omega
    · obtain rfl : j = n - 3 := by omega
      have hsd := SlD.of_own (l := zigL n (n - 3)) ho
      have HL2 := Lib.hid hL2
      have m2 : ¬ (((n - 3 : Nat) : Int) < (n : Int) - 3) := by omega
      clear hL2 ho
      generalize zigL n (n - 3) = L at *
      generalize hkk : n - 3 = kk at *
      have Hkk := Lib.hid hkk
      clear hkk
      go_wp2_with fail
      refine (spec_poSorted_n A' kk c' wr.heap.size L _ HL2.out hsd (Nat.le_refl _) (by have := Hkk.out; omega)).mono ?_
      rintro e w2 ⟨A9, c9, rfl, o9, b9⟩
      have hres : GivD w (sortD L) (.returned (.slice A9 (sortD L).length c9)) w2 := ⟨A9, c9, rfl, o9.mono hb.size, below_kept hb (Nat.le_refl _) b9⟩
      have Hres := Lib.hid hres
      clear hres o9 b9 hb hsd
      go_wp2
      go_ret
      exact Hres.out

theorem spec_ZigzagOf (n : Int) (w : World) : Calls Try.prog 22 #[.int .i64 n] w (RetD w (zigR n) (poB n)) := by
  cases hp : poB n
  · have hres : RetD w (zigR n) false (.returned (.tuple #[.slice none 0 0, .bool false])) w := by
      have : zigR n = [] := by unfold zigR; rw [hp]; rfl
      rw [this]
      exact retD_nil (Below.refl _ _)
    have Hres := Lib.hid hres
    clear hres
    go_enter Try.func22, Try.ntmps22
    go_wp2_with (go_at_call 49; ((with_reducible refine (spec_poIs _ _ _ hp).mono ?_); rintro e w' ⟨rfl, rfl⟩))
    go_ret2
    exact Hres.out
  · have hn := poB_iff'.1 hp
    obtain ⟨m, rfl⟩ := Int.eq_ofNat_of_zero_le (show 0 ≤ n by omega)
    have hyes : zigR m = sortD (zigL m (m - 3)) := by
      unfold zigR
      rw [hp, if_pos rfl]
      congr 2
      omega
    have Hyes := Lib.hid hyes
    have h3 : 3 ≤ m := by omega
    have h12 : m ≤ 12 := by omega
    clear hyes hn
    go_enter Try.func22, Try.ntmps22
    go_wp2_with (go_at_call 49; ((with_reducible refine (spec_poIs _ _ _ hp).mono ?_); rintro e w' ⟨rfl, rfl⟩))
    refine (spec_poZigzag m _ h3 h12).mono ?_
    rintro e w2 ⟨A', c', rfl, ho, hb2⟩
    have hres : RetD w (zigR m) true (.returned (.tuple #[.slice A' (sortD (zigL m (m - 3))).length c', .bool true])) w2 := by
      rw [Hyes.out]
      exact ⟨A', c', rfl, ho, hb2⟩
    have Hres := Lib.hid hres
    clear hres hb2 ho
    go_wp2
    go_ret2
    exact Hres.out

/-- the zigzag in the making: the others still zero -/
def halfZ (n : Int) (m k : Nat) : List (Int × Int) := zigL n k ++ List.replicate (m - k) (0, 0)
theorem halfZ_length (n : Int) (m k : Nat) (h : k ≤ m) : (halfZ n m k).length = m := by simp [halfZ, zigL_length]; omega
theorem halfZ_set (n : Int) (m k : Nat) (h : k < m) : (halfZ n m k).set k (1 + ((k / 2 : Nat) : Int), n - 1 - (((k + 1) / 2 : Nat) : Int)) = halfZ n m (k + 1) := by
  unfold halfZ
  rw [List.set_append_right _ _ (by rw [zigL_length]; omega), zigL_length, Nat.sub_self, show m - k = (m - (k + 1)) + 1 by omega, List.replicate_succ, List.set_cons_zero, zigL_succ, List.append_assoc]
  simp

set_option maxRecDepth 100000 in
set_option maxHeartbeats 3200000 in
theorem impl_ZigzagOf (n : Int) (w : World) : Calls Try.prog 23 #[.int .i64 n] w (RetD w (zigR n) (poB n)) := by
  cases hp : poB n
  · have hres : RetD w (zigR n) false (.returned (.tuple #[.slice none 0 0, .bool false])) w := by
      have : zigR n = [] := by unfold zigR; rw [hp]; rfl
      rw [this]
      exact retD_nil (Below.refl _ _)
    have Hres := Lib.hid hres
    clear hres
    go_enter Try.func23, Try.ntmps23
    go_wp2_with (go_at_call 51; ((with_reducible refine (impl_isPolygon _ _ _ hp).mono ?_); rintro e w' ⟨rfl, rfl⟩))
    go_ret2
    exact Hres.out
  · have hn := poB_iff'.1 hp
    obtain ⟨N, rfl⟩ := Int.eq_ofNat_of_zero_le (show 0 ≤ n by omega)
    obtain ⟨m, rfl⟩ : ∃ m, N = m + 3 := ⟨N - 3, by omega⟩
    have hyes : zigR ((m + 3 : Nat) : Int) = sortD (zigL ((m + 3 : Nat) : Int) m) := by
      unfold zigR
      rw [hp, if_pos rfl]
      congr 2
      omega
    have Hyes := Lib.hid hyes
    have h12 : m ≤ 9 := by omega
    obtain ⟨i0, hii, hz0, hz1, hz2⟩ := info_parts infoD
    have hbytes : i0.bytes * m ≤ 281474976710656 := by rw [hz2]; omega
    have hmax : m ≤ maxLen := by unfold maxLen; omega
    obtain ⟨N, hN⟩ : ∃ N : Int, N = ((m + 3 : Nat) : Int) := ⟨_, rfl⟩
    rw [← hN] at hp Hyes ⊢
    have n0 : N - 3 = (m : Int) := by omega
    have n1 : 3 ≤ N := by omega
    have n2 : N ≤ 12 := by omega
    have HNm := Lib.hid hN
    clear hyes hn hN
    go_enter Try.func23, Try.ntmps23
    go_wp2_with (first
      | (go_at_call 51; ((with_reducible refine (impl_isPolygon _ _ _ hp).mono ?_); rintro e w' ⟨rfl, rfl⟩))
      | (at_make; refine wpList_make_full _ rfl _ _ _ rfl w.heap.size 53 i0 (.agg #[.int .i64 0, .int .i64 0]) 2 Try.underlying24 hii hz0 hz1 _ _ _ _ m rfl rfl rfl rfl hbytes hmax (Nat.le_refl _) ?_; intro w1 hown1 hgrow1))
    have hb1 : Below w.heap.size w w1 := (Below.refl _ _).grown hgrow1 (Nat.le_refl _) (by simp)
    rw [dcs_zeros] at hown1
    clear hgrow1
    go_loopw [5, 6, 7, 18] (fun a b _ i wr => ∃ k : Nat, k ≤ m ∧ i = .int .i64 k ∧ a = .int .i64 (1 + ((k / 2 : Nat) : Int)) ∧ b = .int .i64 (N - 1 - (((k + 1) / 2 : Nat) : Int)) ∧ wr.ownsRow w.heap.size 53 2 (.slice (some ⟨w.heap.size, 0, none⟩) m m) m (dcs (halfZ N m k)) ∧ Below w.heap.size w wr) (fun _ _ _ i _ => m - (intOf i).toNat)
    case atStart => exact ⟨0, Nat.zero_le _, rfl, rfl, by simp, by simpa [halfZ, zigL] using hown1, hb1⟩
    case round =>
      clear hown1 hb1
      obtain ⟨k, hk, rfl, rfl, rfl, ho, hb⟩ := hrel
      by_cases hlt : k < m
      · have hkl : k < (halfZ N m k).length := by rw [halfZ_length N m k hk]; exact hlt
        have c0 : wr.cell? ⟨w.heap.size, k * 2, none⟩ = some (.int .i64 ((halfZ N m k).getD k (0, 0)).1) := by rw [ho.cellAt _ (by omega), dcs_get0 _ _ hkl]
        have c1 : wr.cell? ⟨w.heap.size, k * 2 + 1, none⟩ = some (.int .i64 ((halfZ N m k).getD k (0, 0)).2) := by rw [ho.cellAt _ (by omega), dcs_get1 _ _ hkl]
        have f0 := ho.frozenAt (k * 2)
        have f1 := ho.frozenAt (k * 2 + 1)
        obtain ⟨hs1, hs2⟩ := stored2 ho k hkl (1 + ((k / 2 : Nat) : Int)) (N - 1 - (((k + 1) / 2 : Nat) : Int))
        rw [halfZ_set N m k hlt] at hs1
        have hd3 := below_grown hb hs2 (Nat.le_refl _) (fun k hk => by injection hk with hk; omega)
        obtain ⟨x, hx⟩ : ∃ x : Int, 1 + ((k / 2 : Nat) : Int) = x := ⟨_, rfl⟩
        obtain ⟨y, hy⟩ : ∃ y : Int, N - 1 - (((k + 1) / 2 : Nat) : Int) = y := ⟨_, rfl⟩
        rw [hx, hy] at hs1 hd3 ⊢
        have x0 : 0 ≤ x := by omega
        have x1 : x ≤ 12 := by omega
        have y0 : 0 ≤ y := by omega
        have y1 : y ≤ 12 := by omega
        have Hx := Lib.hid hx
        have Hy := Lib.hid hy
        clear ho hb hs2 hx hy
        generalize ((halfZ N m k).getD k (0, 0)).1 = z0 at *
        generalize ((halfZ N m k).getD k (0, 0)).2 = z1 at *
        by_cases hpz : k % 2 = 0
        · have hpar : (((k : Int) % 2) == 0) = true := by
            have : (k : Int) % 2 = 0 := by omega
            simpa using this
          have nx : 1 + (((k + 1) / 2 : Nat) : Int) = x := by have := Hx.out; omega
          have ny : N - 1 - (((k + 1 + 1) / 2 : Nat) : Int) = y - 1 := by have := Hy.out; omega
          have Nx := Lib.hid nx
          have Ny := Lib.hid ny
          clear nx ny hpz
          go_wp2
          go_roundw
          case rel => exact ⟨k + 1, by omega, by go_num, by rw [Nx.out], by rw [Ny.out], hs1, hd3⟩
          case measure => simp [intOf]; omega
        · have hpar : (((k : Int) % 2) == 0) = false := by
            have : (k : Int) % 2 ≠ 0 := by omega
            simpa using this
          have nx : 1 + (((k + 1) / 2 : Nat) : Int) = x + 1 := by have := Hx.out; omega
          have ny : N - 1 - (((k + 1 + 1) / 2 : Nat) : Int) = y := by have := Hy.out; omega
          have Nx := Lib.hid nx
          have Ny := Lib.hid ny
          clear nx ny hpz
          go_wp2
          go_roundw
          case rel => exact ⟨k + 1, by omega, by go_num, by rw [Nx.out], by rw [Ny.out], hs1, hd3⟩
          case measure => simp [intOf]; omega
      · obtain rfl : k = m := by omega
        have hall : halfZ N k k = zigL N k := by simp [halfZ]
        rw [hall] at ho
        have HL2 := Lib.hid (zigL_length N k)
        have hsm : k ≤ 12 := by omega
        clear hall
        generalize zigL N k = L at *
        go_wp2_with fail
        refine (slices_SortFunc_n w.heap.size k k w.heap.size 53 L _ HL2.out ho hsm).mono ?_
        rintro e w2 ⟨rfl, o9, b9⟩
        have hbF := below_grown hb b9 (Nat.le_refl _) (by intro k hk; injection hk with hk; omega)
        have hln : (sortD L).length = k := by rw [sortD_length, HL2.out]
        have hres : RetD w (zigR N) true (.returned (.tuple #[.slice (some ⟨w.heap.size, 0, none⟩) k k, .bool true])) w2 := by
          rw [Hyes.out]
          exact ⟨some ⟨w.heap.size, 0, none⟩, k, by rw [hln], by rw [hln]; exact o9, hbF⟩
        have Hres := Lib.hid hres
        clear hres o9 b9 hb ho hbF hln
        go_wp2
        go_ret2
        exact Hres.out

theorem WZigzagOf.walk (w : World) (n : Int) (wn : (Lit.int .i64 n).wf = true) :
    Calls Try.prog 6 #[.int .i64 n] w fun e w' => e = .returned (.bool true) ∧ Below w.heap.size w w' :=
  WZigzagOf.core w n (zigR n) (poB n) (zigR_length n)
    (Lib.hid fun w => spec_ZigzagOf n w)
    (Lib.hid fun w => impl_ZigzagOf n w)

end Go.Proofs.Ytjpcmkginfbkbab
