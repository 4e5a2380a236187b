/- The first one of the turned ones, and of a class: the model's. -/
import Derived.Test.YtbpaaoeefcebeabLexS
import Derived.Test.YtbpaaoeefcebeabTurnPolygonW
import Derived.Test.YtbpaaoeefcebeabAppS
namespace Go.Proofs.Ytbpaaoeefcebeab
set_option linter.unusedVariables false
open Go.RowKit

set_option maxRecDepth 100000 in
set_option maxHeartbeats 3200000 in
theorem spec_caLeast (m n : Nat) (A : Option Addr) (c B : Nat) (l : List (Int × Int)) (w : World) (hl : l.length = n) (ht : triB m l = true) (h : SlD w B A l) (hB : B ≤ w.heap.size) :
    Calls Try.prog 66 #[.int .i64 m, .slice A n c] w (GivD w (leastL m l)) := by
  have T := tri_of ht
  have hm12 : m ≤ 12 := by have := T.n12; omega
  have hm3 : 3 ≤ m := by have := T.n3; omega
  have hn9 : n ≤ 9 := by have := T.len; omega
  have h0 := trn_zero T
  have hle := leastL_length m l
  have hend : leastL m l = minF (trn m l) (m - 1) := rfl
  have H := Lib.hid h
  have Hl := Lib.hid hl
  have Ht := Lib.hid ht
  have H0 := Lib.hid h0
  have Hle := Lib.hid hle
  have Hend := Lib.hid hend
  have hml : ∀ k, (minF (trn m l) k).length = n := fun k => by
    obtain ⟨j, _, e⟩ := minF_ex (trn m l) k
    rw [e, trn_length, hl]
  have Hml := Lib.hid hml
  clear h hl ht T h0 hle hend hml
  go_enter Try.func66, Try.ntmps66
  go_wp2
  go_loopw [5, 6, 7] (fun bs i _ wr => ∃ (k : Nat) (Ab : Option Addr) (cb : Nat), k ≤ m ∧ i = .int .i64 k ∧ bs = .slice Ab n cb ∧ SlD wr wr.heap.size Ab (minF (trn m l) (k - 1)) ∧ Below w.heap.size w wr) (fun _ i _ _ => m - (intOf i).toNat)
  case atStart =>
    refine ⟨0, A, c, Nat.zero_le _, rfl, rfl, ?_, Below.refl _ _⟩
    show SlD w w.heap.size A (trn m l 0)
    rw [H0.out]
    exact H.out.mono hB
  case round =>
    obtain ⟨k, Ab, cb, hk, rfl, rfl, hs, hb⟩ := hrel
    have hsz := hb.size
    by_cases hlt : k < m
    · have k0 : (0 : Int) ≤ (k : Int) := by omega
      have k1 : (k : Int) < (m : Int) := by omega
      have hcall := spec_poTurn (m : Int) m (k : Int) A c B l wr rfl hm12 k0 k1 Ht.out (H.out.below (hb.mono hB)) (Nat.le_trans hB hsz)
      rw [Hl.out, show sortD (mvL (turnF (m : Int) (k : Int)) l) = trn m l k from rfl] at hcall
      have Hcall := Lib.hid hcall
      have Hs := Lib.hid hs
      have Hb := Lib.hid hb
      have hL : (trn m l k).length = n := by rw [trn_length, Hl.out]
      have HL := Lib.hid hL
      have Hm1 := Lib.hid (Hml.out (k - 1))
      clear hcall hs hb hL
      go_wp2_with fail
      refine Hcall.out.mono ?_
      rintro e w2 ⟨A2, c2, rfl, o2, b2⟩
      rw [HL.out] at o2 ⊢
      have S1 := Lib.hid (SlD.of_own o2)
      have S2 := Lib.hid (Hs.out.below b2)
      have B2 := Lib.hid (below_kept Hb.out (Nat.le_refl _) b2)
      have z2 := b2.size
      clear o2 b2
      go_wp2_with fail
      refine (spec_caBefore A2 Ab n n c2 cb w2.heap.size wr.heap.size (trn m l k) (minF (trn m l) (k - 1)) _ S1.out S2.out HL.out Hm1.out rfl (Nat.le_refl _) z2 (by omega)).mono ?_
      rintro e w3 ⟨rfl, b3⟩
      have S3 := Lib.hid ((S1.out.below b3).mono b3.size)
      have S4 := Lib.hid ((S2.out.below (b3.mono z2)).mono (Nat.le_trans z2 b3.size))
      have B3 := Lib.hid (below_kept B2.out (Nat.le_refl _) b3)
      clear b3
      cases hx : lexB (trn m l k) (minF (trn m l) (k - 1))
      · have hE : minF (trn m l) (k + 1 - 1) = minF (trn m l) (k - 1) := by
          cases k with
          | zero => rfl
          | succ k => exact minF_no hx
        have HE := Lib.hid hE
        clear hE hx
        go_wp2
        go_roundw
        case rel => exact ⟨k + 1, Ab, cb, by omega, by go_num, rfl, by rw [HE.out]; exact S4.out, B3.out⟩
        case measure => simp [intOf]; omega
      · have hE : minF (trn m l) (k + 1 - 1) = trn m l k := by
          cases k with
          | zero => rfl
          | succ k => exact minF_yes hx
        have HE := Lib.hid hE
        clear hE hx
        go_wp2
        go_roundw
        case rel => exact ⟨k + 1, A2, c2, by omega, by go_num, rfl, by rw [HE.out]; exact S3.out, B3.out⟩
        case measure => simp [intOf]; omega
    · obtain rfl : k = m := by omega
      rw [← Hend.out] at hs
      have HS := Lib.hid (hs.below ((Below.refl _ _).alloc (Nat.le_refl _) (.cells #[] 65)))
      have Hb := Lib.hid hb
      have own0 := own_made wr (B := w.heap.size) hsz
      have Hn := Lib.hid (Hml.out (k - 1))
      rw [← Hend.out] at Hn
      clear hs hb
      go_wp2_with (at_builtin; refine wpList_appendN _ rfl _ _ rfl w.heap.size (.slice (some ⟨wr.heap.size, 0, none⟩) 0 0) 0 [] rfl rfl own0 Ab n cb (leastL k l) wr.heap.size n (by omega) rfl Hn.out HS.out (by omega) (by omega) (by simp; omega) ?_; intro A3 c3 w3 own3 hg3)
      have hb3 := below_grown (Hb.out.alloc hsz (.cells #[] 65)) hg3 (Nat.le_refl _) (fun j hj => (own0.lt j hj).1)
      rw [List.nil_append] at own3
      have hres : GivD w (leastL k l) (.returned (.slice A3 n c3)) w3 := ⟨A3, c3, by rw [Hn.out], by rw [Hn.out]; exact own3, hb3⟩
      have Hres := Lib.hid hres
      clear hres own3 hg3 hb3 own0
      go_wp2
      go_ret
      exact Hres.out

set_option maxRecDepth 100000 in
set_option maxHeartbeats 1600000 in
theorem spec_LeastTurned (n : Int) (A : Option Addr) (c B : Nat) (l : List (Int × Int)) (w : World) (h : SlD w B A l) (hB : B ≤ w.heap.size) (hl : l.length ≤ 1048576) (hlc : l.length ≤ c) :
    Calls Try.prog 24 #[.int .i64 n, .slice A l.length c] w (RetD w (ltR n l) (triB n l)) := by
  go_enter Try.func24, Try.ntmps24
  go_wp2_with fail
  refine (spec_poGood n A c B l _ h hB hl hlc).mono ?_
  rintro e w1 ⟨rfl, hb1⟩
  cases ht : triB n l
  · have hres : RetD w (ltR n l) (triB n l) (.returned (.tuple #[.slice none 0 0, .bool false])) w1 := by
      rw [ltR_no ht, ht]
      exact retD_nil hb1
    have Hres := Lib.hid hres
    clear hres h hb1
    go_wp2
    go_ret2
    exact Hres.out
  · have hn := tri_n ht
    obtain ⟨m, rfl⟩ := Int.eq_ofNat_of_zero_le (show 0 ≤ n by omega)
    clear hn
    go_wp2_with fail
    refine (spec_caLeast m l.length A c B l _ rfl ht (h.below (hb1.mono hB)) (Nat.le_trans hB hb1.size)).mono ?_
    rintro e w2 ⟨A', c', rfl, ho, hb2⟩
    have hres : RetD w (ltR m l) (triB m l) (.returned (.tuple #[.slice A' (leastL m l).length c', .bool true])) w2 := by
      rw [ltR_yes ht, ht]
      exact ⟨A', c', rfl, ho.mono hb1.size, below_kept hb1 (Nat.le_refl _) hb2⟩
    have Hres := Lib.hid hres
    clear hres h hb1 hb2 ho
    go_wp2
    go_ret2
    exact Hres.out
end Go.Proofs.Ytbpaaoeefcebeab
