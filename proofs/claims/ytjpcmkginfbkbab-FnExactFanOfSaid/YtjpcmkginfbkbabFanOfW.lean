/- FanOf: the model's and the program's contract, and the law's walk. -/
import Derived.Test.YtjpcmkginfbkbabFanM
import Derived.Test.YtjpcmkginfbkbabTurnPolygonW
import Derived.Test.YtjpcmkginfbkbabFanOfC
import Derived.OwnWalk
namespace Go.Proofs.Ytjpcmkginfbkbab
set_option linter.unusedVariables false
open Go.RowKit

theorem poB_iff' {n : Int} : poB n = true ↔ 3 ≤ n ∧ n ≤ 12 := by unfold poB; simp

set_option maxRecDepth 100000 in
set_option maxHeartbeats 1600000 in
theorem spec_poFan (n a : Nat) (w : World) (h3 : 3 ≤ n) (h12 : n ≤ 12) (ha : a < n) :
    Calls Try.prog 50 #[.int .i64 n, .int .i64 a] w (GivD w (fanI n a n)) := by
  have hfe := fan_eq h3 h12 ha
  rw [← hfe]
  clear hfe
  go_enter Try.func50, Try.ntmps50
  go_wp2
  go_loopw [5, 6, 7] (fun v i _ wr => ∃ (j : Nat) (A' : Option Addr) (c' : Nat), j ≤ n - 3 ∧ i = .int .i64 ((j : Int) + 2) ∧ v = .slice A' j c' ∧ wr.ownsRow w.heap.size 53 2 (.slice A' j c') j (dcs (fanS n a j)) ∧ Below w.heap.size w wr) (fun _ i _ _ => n - (intOf i).toNat)
  case atStart => exact ⟨0, none, 0, Nat.zero_le _, rfl, rfl, World.ownsRow_nil _ _ _ _, Below.refl _ _⟩
  case round =>
    obtain ⟨j, A', c', hj, rfl, rfl, ho, hb⟩ := hrel
    have hob := ho.lt
    have Hob := Lib.hid hob
    have hsz := hb.size
    clear hob
    by_cases hlt : j < n - 3
    · have hst := fanS_succ n a j
      have hLl := fanS_length n a j
      generalize fanS n a j = L at *
      have hr0 : 0 ≤ ((a : Int) + ((j : Int) + 2)) % (n : Int) := Int.emod_nonneg _ (by omega)
      have hr1 : ((a : Int) + ((j : Int) + 2)) % (n : Int) < (n : Int) := Int.emod_lt_of_pos _ (by omega)
      have hjn : jn (a : Int) (((a : Int) + ((j : Int) + 2)) % (n : Int)) = (min (a : Int) (((a : Int) + ((j : Int) + 2)) % (n : Int)), max (a : Int) (((a : Int) + ((j : Int) + 2)) % (n : Int))) := rfl
      rw [hjn] at hst
      have m1 : (1 : Int) ≤ (n : Int) := by omega
      have m2 : (j : Int) + 2 ≤ (n : Int) - 2 := by omega
      obtain ⟨r, hr⟩ : ∃ r : Int, ((a : Int) + ((j : Int) + 2)) % (n : Int) = r := ⟨_, rfl⟩
      rw [hr] at hst hr0 hr1
      have Hst := Lib.hid hst
      have HLl := Lib.hid hLl
      clear hst hLl hjn
      have own2 := ho.alloc (.cells #[.int .i64 (min (a : Int) r), .int .i64 (max (a : Int) r)] 53)
      have hb2 := hb.alloc hsz (.cells #[.int .i64 (min (a : Int) r), .int .i64 (max (a : Int) r)] 53)
      have hb6 := hb2.size
      clear ho hb
      go_wp2_with (first
        | (go_at_call 75; ((with_reducible refine (spec_l1Least _ _ _).mono ?_); rintro e w' ⟨rfl, rfl⟩))
        | (go_at_call 76; ((with_reducible refine (spec_l1Most _ _ _).mono ?_); rintro e w' ⟨rfl, rfl⟩))
        | (at_builtin; refine append1Dn _ rfl _ _ rfl w.heap.size (.slice A' j c') j L HLl.out rfl own2 wr.heap.size (min (a : Int) r) (max (a : Int) r) rfl ?c1 ?c2 ?c3 hb6 ?_; (case c1 => simp [go_sem]); (case c2 => simp [go_sem]); (case c3 => omega); intro A3 c3 w3 own3 hg3))
      have hb7 := hb2.grown hg3 hb6 (fun j hj => (Hob.out j hj).1)
      rw [← Hst.out] at own3
      clear hg3 hb2 own2
      go_wp2
      go_roundw
      case rel => exact ⟨j + 1, A3, c3, by omega, by congr 1 <;> omega, rfl, own3, hb7⟩
      case measure => simp [intOf]; omega
    · obtain rfl : j = n - 3 := by omega
      have hsd := SlD.of_own (l := fanS n a (n - 3)) ho
      have hL2 := fanS_length n a (n - 3)
      have HL2 := Lib.hid hL2
      have m2 : ¬ (((n - 3 : Nat) : Int) + 2 ≤ (n : Int) - 2) := by omega
      clear hL2 ho
      generalize fanS n a (n - 3) = L at *
      generalize hkk : n - 3 = kk at *
      have Hkk := Lib.hid hkk
      clear hkk
      go_wp2_with fail
      refine (spec_poSorted_n A' kk c' wr.heap.size L _ HL2.out hsd (Nat.le_refl _) (by have := Hkk.out; omega)).mono ?_
      rintro e w2 ⟨A9, c9, rfl, o9, b9⟩
      have hres : GivD w (sortD L) (.returned (.slice A9 (sortD L).length c9)) w2 := ⟨A9, c9, rfl, o9.mono hb.size, below_kept hb (Nat.le_refl _) b9⟩
      have Hres := Lib.hid hres
      clear hres o9 b9 hb hsd
      go_wp2
      go_ret
      exact Hres.out

theorem spec_FanOf (n a : Int) (w : World) (wn : -9223372036854775808 ≤ n ∧ n ≤ 9223372036854775807) :
    Calls Try.prog 20 #[.int .i64 n, .int .i64 a] w (RetD w (fanL n a) (poB n && inB a 0 (n - 1))) := by
  have hno : (poB n && inB a 0 (n - 1)) = false → RetD w (fanL n a) (poB n && inB a 0 (n - 1)) (.returned (.tuple #[.slice none 0 0, .bool false])) w := fun e => by
    have : fanL n a = [] := by unfold fanL; rw [e]; rfl
    rw [this, e]
    exact retD_nil (Below.refl _ _)
  have Hno := Lib.hid hno
  clear hno
  cases hp : poB n
  · have hres := Hno.out (by rw [hp]; rfl)
    rw [hp] at hres
    have Hres := Lib.hid hres
    clear hres
    go_enter Try.func20, Try.ntmps20
    go_wp2_with (go_at_call 49; ((with_reducible refine (spec_poIs _ _ _ hp).mono ?_); rintro e w' ⟨rfl, rfl⟩))
    go_ret2
    exact Hres.out
  · have hn := poB_iff'.1 hp
    obtain ⟨m, rfl⟩ := Int.eq_ofNat_of_zero_le (show 0 ≤ n by omega)
    obtain ⟨hn1, hn2⟩ := hn
    cases hi : inB a 0 ((m : Int) - 1)
    · have hres := Hno.out (by rw [hi]; simp)
      rw [hp, hi] at hres
      have Hres := Lib.hid hres
      clear hres wn
      go_enter Try.func20, Try.ntmps20
      go_wp2_with (go_at_call 49; ((with_reducible refine (spec_poIs _ _ _ hp).mono ?_); rintro e w' ⟨rfl, rfl⟩))
      refine (spec_l1In _ _ _ _).mono ?_
      rintro e w2 ⟨rfl, rfl⟩
      rw [hi]
      go_wp2
      go_ret2
      exact Hres.out
    · have hk := inB_iff.1 hi
      obtain ⟨b, rfl⟩ := Int.eq_ofNat_of_zero_le hk.1
      have hbm : b < m := by omega
      have hyes : fanL m b = fanI m b m := by unfold fanL; rw [hp, hi]; rfl
      have Hyes := Lib.hid hyes
      clear wn hk hyes
      go_enter Try.func20, Try.ntmps20
      go_wp2_with (go_at_call 49; ((with_reducible refine (spec_poIs _ _ _ hp).mono ?_); rintro e w' ⟨rfl, rfl⟩))
      refine (spec_l1In _ _ _ _).mono ?_
      rintro e w2 ⟨rfl, rfl⟩
      rw [hi]
      go_wp2_with fail
      refine (spec_poFan m b _ (by omega) (by omega) hbm).mono ?_
      rintro e w2 ⟨A', c', rfl, ho, hb2⟩
      have hres : RetD w (fanL m b) (true && true) (.returned (.tuple #[.slice A' (fanI m b m).length c', .bool true])) w2 := by
        rw [Hyes.out]
        exact ⟨A', c', rfl, ho, hb2⟩
      have Hres := Lib.hid hres
      clear hres hb2 ho
      go_wp2
      go_ret2
      exact Hres.out

set_option maxRecDepth 100000 in
set_option maxHeartbeats 3200000 in
theorem impl_FanOf (n a : Int) (w : World) (wn : -9223372036854775808 ≤ n ∧ n ≤ 9223372036854775807) :
    Calls Try.prog 21 #[.int .i64 n, .int .i64 a] w (RetD w (fanL n a) (poB n && inB a 0 (n - 1))) := by
  have hno : (poB n && inB a 0 (n - 1)) = false → RetD w (fanL n a) (poB n && inB a 0 (n - 1)) (.returned (.tuple #[.slice none 0 0, .bool false])) w := fun e => by
    have : fanL n a = [] := by unfold fanL; rw [e]; rfl
    rw [this, e]
    exact retD_nil (Below.refl _ _)
  have Hno := Lib.hid hno
  clear hno
  cases hp : poB n
  · have hres := Hno.out (by rw [hp]; rfl)
    rw [hp] at hres
    have Hres := Lib.hid hres
    clear hres
    go_enter Try.func21, Try.ntmps21
    go_wp2_with (go_at_call 51; ((with_reducible refine (impl_isPolygon _ _ _ hp).mono ?_); rintro e w' ⟨rfl, rfl⟩))
    go_ret2
    exact Hres.out
  · have hn := poB_iff'.1 hp
    obtain ⟨m, rfl⟩ := Int.eq_ofNat_of_zero_le (show 0 ≤ n by omega)
    obtain ⟨hn1, hn2⟩ := hn
    cases hi : inB a 0 ((m : Int) - 1)
    · have hres := Hno.out (by rw [hi]; simp)
      rw [hp, hi] at hres
      have Hres := Lib.hid hres
      clear hres wn
      go_enter Try.func21, Try.ntmps21
      go_wp2_with (go_at_call 51; ((with_reducible refine (impl_isPolygon _ _ _ hp).mono ?_); rintro e w' ⟨rfl, rfl⟩))
      refine (impl_isCorner _ _ _ _ hi).mono ?_
      rintro e w2 ⟨rfl, rfl⟩
      go_wp2
      go_ret2
      exact Hres.out
    · have hk := inB_iff.1 hi
      obtain ⟨b, rfl⟩ := Int.eq_ofNat_of_zero_le hk.1
      have hbm : b < m := by omega
      have hyes : fanL m b = fanI m b m := by unfold fanL; rw [hp, hi]; rfl
      have Hyes := Lib.hid hyes
      obtain ⟨i0, hii, hz0, hz1, hz2⟩ := info_parts infoD
      have hbytes : i0.bytes * (m - 3) ≤ 281474976710656 := by rw [hz2]; omega
      have hmax : m - 3 ≤ maxLen := by unfold maxLen; omega
      have hm3 : ((m : Int) - 3) = ((m - 3 : Nat) : Int) := by omega
      have Hm3 := Lib.hid hm3
      clear wn hk hyes hm3
      go_enter Try.func21, Try.ntmps21
      go_wp2_with (go_at_call 51; ((with_reducible refine (impl_isPolygon _ _ _ hp).mono ?_); rintro e w' ⟨rfl, rfl⟩))
      refine (impl_isCorner _ _ _ _ hi).mono ?_
      rintro e w2 ⟨rfl, rfl⟩
      go_wp2_with (at_make; refine wpList_make_own _ rfl _ _ _ rfl w.heap.size 53 i0 (.agg #[.int .i64 0, .int .i64 0]) 2 Try.underlying24 hii hz0 hz1 _ _ _ (m - 3) rfl rfl Hm3.out hbytes hmax (Nat.le_refl _) ?_; intro w4 hown4 hgrow4)
      have hb4 : Below w.heap.size w w4 := (Below.refl _ _).grown hgrow4 (Nat.le_refl _) (fun _ e => by cases e)
      clear hgrow4
      go_loopw [6, 7, 8, 22] (fun v _ _ i wr => ∃ (k : Nat) (A' : Option Addr) (c' : Nat), k ≤ m ∧ i = .int .i64 k ∧ v = .slice A' (fanI m b k).length c' ∧ wr.ownsRow w.heap.size 53 2 (.slice A' (fanI m b k).length c') (fanI m b k).length (dcs (fanI m b k)) ∧ Below w.heap.size w wr) (fun _ _ _ i _ => m - (intOf i).toNat)
      case atStart => exact ⟨0, _, _, Nat.zero_le _, rfl, rfl, hown4, hb4⟩
      case round =>
        clear hown4 hb4
        obtain ⟨k, A', c', hk, rfl, rfl, ho, hb⟩ := hrel
        by_cases hlt : k < m
        · have hhit := fanI_hit m b k
          have hmiss := fanI_miss m b k
          have hle := fanI_le m b k
          have hjn : jn (b : Int) (k : Int) = (min (b : Int) (k : Int), max (b : Int) (k : Int)) := rfl
          rw [hjn] at hhit hmiss
          have Hhit := Lib.hid hhit
          have Hmiss := Lib.hid hmiss
          have Hle := Lib.hid hle
          have Ho := Lib.hid ho
          have Hb := Lib.hid hb
          clear hhit hmiss hle hjn ho hb
          generalize hL : fanI m b k = L at *
          have HL := Lib.hid hL
          clear hL
          go_wp2_with fail
          refine (impl_join _ _ _).mono ?_
          rintro e w5 ⟨rfl, hb5⟩
          have ho5 := own_kept Ho.out hb5
          have hd5 := below_kept Hb.out (Nat.le_refl _) hb5
          generalize min (b : Int) (k : Int) = x at *
          generalize max (b : Int) (k : Int) = y at *
          have ho6 := ho5.alloc (.cells #[.int .i64 x, .int .i64 y] 53)
          have hd6 := hd5.alloc hd5.size (.cells #[.int .i64 x, .int .i64 y] 53)
          have Ho6 := Lib.hid ho6
          have Hd6 := Lib.hid hd6
          clear hb5 ho5 hd5 ho6 hd6
          go_wp2_with fail
          refine (impl_IsDiagonal _ _ _ _).mono ?_
          rintro e w7 ⟨rfl, hb7⟩
          have q0 : w7.cell? ⟨w5.heap.size, 0, none⟩ = some (.int .i64 x) := cell_kept hb7 (by simp [go_sem])
          have q1 : w7.cell? ⟨w5.heap.size, 1, none⟩ = some (.int .i64 y) := cell_kept hb7 (by simp [go_sem])
          have ho7 := own_kept Ho6.out hb7
          have hd7 := below_kept Hd6.out (Nat.le_refl _) hb7
          clear hb7
          cases hdg : dgB (m : Int) x y
          · have hE : fanI m b (k + 1) = L := by rw [Hmiss.out hdg]
            have HE := Lib.hid hE
            clear hE
            have Ho7 := Lib.hid ho7
            have Hd7 := Lib.hid hd7
            clear ho7 hd7
            go_wp2
            go_roundw
            case rel => exact ⟨k + 1, A', c', by omega, by go_num, by rw [HE.out], by rw [HE.out]; exact Ho7.out, Hd7.out⟩
            case measure => simp [intOf]; omega
          · have hE : fanI m b (k + 1) = L ++ [(x, y)] := by rw [Hhit.out hdg]
            have HE := Lib.hid hE
            have hl9 : L.length ≤ 1000000 := by have := Hle.out; omega
            have own2 := ho7.alloc (.cells #[.int .i64 x, .int .i64 y] 53)
            have hb8 := hd7.alloc hd7.size (.cells #[.int .i64 x, .int .i64 y] 53)
            have Hb8 := Lib.hid hb8
            clear hE ho7 hd7 hb8
            go_wp2_with (at_builtin; refine append1Dn _ rfl _ _ rfl w.heap.size (.slice A' L.length c') L.length L rfl rfl own2 w7.heap.size x y rfl ?c1 ?c2 hl9 Hb8.out.size ?_; (case c1 => simp [go_sem]); (case c2 => simp [go_sem]); intro A3 c3 w9 own3 hg3)
            have hb9 := below_grown Hb8.out hg3 (Nat.le_refl _) (fun j hj => (own2.lt j hj).1)
            have hlen : (fanI m b (k + 1)).length = L.length + 1 := by rw [HE.out]; simp
            have Hlen := Lib.hid hlen
            clear hg3 own2 hlen
            go_wp2
            go_roundw
            case rel => exact ⟨k + 1, A3, c3, by omega, by go_num, by rw [Hlen.out], by rw [Hlen.out, HE.out]; exact own3, hb9⟩
            case measure => simp [intOf]; omega
        · obtain rfl : k = m := by omega
          have hres : RetD w (fanL k b) (true && true) (.returned (.tuple #[.slice A' (fanI k b k).length c', .bool true])) wr := by
            rw [Hyes.out]
            exact ⟨A', c', rfl, ho, hb⟩
          have Hres := Lib.hid hres
          clear hres hb ho
          go_wp2
          go_ret2
          exact Hres.out

theorem WFanOf.walk (w : World) (n : Int) (wn : (Lit.int .i64 n).wf = true) (a : Int) (wa : (Lit.int .i64 a).wf = true) :
    Calls Try.prog 5 #[.int .i64 n, .int .i64 a] w fun e w' => e = .returned (.bool true) ∧ Below w.heap.size w w' :=
  WFanOf.core w n a (fanL n a) (poB n && inB a 0 (n - 1)) (fanL_length n a)
    (Lib.hid fun w => spec_FanOf n a w (bounds_i64 wn))
    (Lib.hid fun w => impl_FanOf n a w (bounds_i64 wn))

end Go.Proofs.Ytjpcmkginfbkbab
