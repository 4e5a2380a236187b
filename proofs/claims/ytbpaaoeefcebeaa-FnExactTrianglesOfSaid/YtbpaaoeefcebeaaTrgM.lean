/- Triangles of a triangulation, in order: lists; a row of three put to a list of rows. -/
import Derived.Test.YtbpaaoeefcebeaaSSA
import Derived.Test.YtbpaaoeefcebeaaFlipM
namespace Go.Proofs.Ytbpaaoeefcebeaa
set_option linter.unusedVariables false
open Go.RowKit

def jn (n : Nat) (l : List (Int × Int)) (x y : Nat) : Bool := decide (Jd n l x y)
theorem of_jn {n : Nat} {l : List (Int × Int)} {x y : Nat} {b : Bool} (h : jn n l x y = b) : decide (Jd n l x y) = b := h
def tOk (J : Nat → Nat → Bool) (a b c : Nat) : Bool := decide (b < c) && (J a b && J b c && J a c)
/-- the triangles with corners a, b and one below m; with a, one below m and another; with one below m -/
def tcR (J : Nat → Nat → Bool) (a b m : Nat) : List (List Int) := ((List.range m).filter (tOk J a b)).map fun (c : Nat) => [(a : Int), (b : Int), (c : Int)]
def tbR (J : Nat → Nat → Bool) (n a m : Nat) : List (List Int) := (List.range m).flatMap fun b => if a < b then tcR J a b n else []
def taR (J : Nat → Nat → Bool) (n m : Nat) : List (List Int) := (List.range m).flatMap fun a => tbR J n a n
theorem tc_hit {J : Nat → Nat → Bool} {a b m : Nat} (h : tOk J a b m = true) : tcR J a b (m + 1) = tcR J a b m ++ [[(a : Int), (b : Int), (m : Int)]] := by
  unfold tcR
  rw [List.range_succ, List.filter_append, List.map_append]
  simp [h]
theorem tc_miss {J : Nat → Nat → Bool} {a b m : Nat} (h : tOk J a b m = false) : tcR J a b (m + 1) = tcR J a b m := by
  unfold tcR
  rw [List.range_succ, List.filter_append, List.map_append]
  simp [h]
theorem tc_low {J : Nat → Nat → Bool} {a b : Nat} : ∀ m, m ≤ b + 1 → tcR J a b m = []
  | 0, _ => rfl
  | m + 1, h => by rw [tc_miss (by unfold tOk; rw [decide_eq_false (by omega)]; rfl)]; exact tc_low m (by omega)
theorem tc_none {J : Nat → Nat → Bool} {a b : Nat} (hJ : J a b = false) : ∀ m, tcR J a b m = []
  | 0 => rfl
  | m + 1 => by rw [tc_miss (by unfold tOk; rw [hJ]; simp)]; exact tc_none hJ m
theorem tb_succ {J : Nat → Nat → Bool} {n a m : Nat} (h : a < m) : tbR J n a (m + 1) = tbR J n a m ++ tcR J a m n := by
  unfold tbR
  rw [List.range_succ, List.flatMap_append]
  simp [h]
theorem tb_low {J : Nat → Nat → Bool} {n a : Nat} : ∀ m, m ≤ a + 1 → tbR J n a m = []
  | 0, _ => rfl
  | m + 1, h => by
    have ih := tb_low (J := J) (n := n) (a := a) m (by omega)
    unfold tbR at ih ⊢
    rw [List.range_succ, List.flatMap_append, ih]
    simp [show ¬ a < m by omega]
theorem ta_succ (J : Nat → Nat → Bool) (n m : Nat) : taR J n (m + 1) = taR J n m ++ tbR J n m n := by
  unfold taR
  rw [List.range_succ, List.flatMap_append]
  simp
theorem tc_len (J : Nat → Nat → Bool) (a b m : Nat) : (tcR J a b m).length ≤ m := by
  unfold tcR
  rw [List.length_map]
  refine Nat.le_trans (List.length_filter_le _ _) ?_
  simp
theorem tb_len (J : Nat → Nat → Bool) (n a : Nat) : ∀ m, (tbR J n a m).length ≤ m * n
  | 0 => by simp [tbR]
  | m + 1 => by
    have ih := tb_len J n a m
    by_cases h : a < m
    · rw [tb_succ h, List.length_append]
      have := tc_len J a m n
      rw [Nat.succ_mul]; omega
    · rw [tb_low (m + 1) (by omega)]; simp
theorem ta_len (J : Nat → Nat → Bool) (n : Nat) : ∀ m, (taR J n m).length ≤ m * (n * n)
  | 0 => by simp [taR]
  | m + 1 => by
    have ih := ta_len J n m
    rw [ta_succ, List.length_append]
    have := tb_len J n m n
    rw [Nat.succ_mul]; omega
theorem ta_row (J : Nat → Nat → Bool) (n m : Nat) : ∀ L ∈ taR J n m, L.length = 3 := by
  intro L hL
  unfold taR at hL
  rw [List.mem_flatMap] at hL
  obtain ⟨a, _, hL⟩ := hL
  unfold tbR at hL
  rw [List.mem_flatMap] at hL
  obtain ⟨b, _, hL⟩ := hL
  split at hL
  · unfold tcR at hL
    rw [List.mem_map] at hL
    obtain ⟨c, _, rfl⟩ := hL
    rfl
  · simp at hL
theorem bd3 {J : Nat → Nat → Bool} {n a b c : Nat} (hn : n ≤ 12) (ha : a ≤ 12) (hb : b ≤ 12) (hc : c ≤ 12) : (taR J n a ++ tbR J n a b ++ tcR J a b c).length ≤ 10000 := by
  have h1 := ta_len J n a
  have h2 := tb_len J n a b
  have h3 := tc_len J a b c
  have h4 : a * (n * n) ≤ 12 * (12 * 12) := Nat.mul_le_mul ha (Nat.mul_le_mul hn hn)
  have h5 : b * n ≤ 12 * 12 := Nat.mul_le_mul hb hn
  simp only [List.length_append]
  omega
/-- what TrianglesOf tells -/
def trgR (n : Int) (l : List (Int × Int)) : List (List Int) := if triB n l = true then taR (jn n.toNat l) n.toNat n.toNat else []
theorem trgR_no {n : Int} {l : List (Int × Int)} (h : triB n l = false) : trgR n l = [] := by simp [trgR, h]
theorem trgR_yes {n : Nat} {l : List (Int × Int)} (h : triB n l = true) : trgR n l = taR (jn n l) n n := by simp [trgR, h]
theorem trgR_len (n : Int) (l : List (Int × Int)) : (trgR n l).length ≤ 10000 := by
  cases h : triB n l
  · rw [trgR_no h]; simp
  · have hn := tri_n h
    obtain ⟨m, rfl⟩ := Int.eq_ofNat_of_zero_le (show 0 ≤ n by omega)
    rw [trgR_yes h]
    have h1 := ta_len (jn m l) m m
    have h4 : m * (m * m) ≤ 12 * (12 * 12) := Nat.mul_le_mul (by omega) (Nat.mul_le_mul (by omega) (by omega))
    omega
theorem trgR_row (n : Int) (l : List (Int × Int)) (j : Nat) (hj : j < (trgR n l).length) : (rowOf (trgR n l) j).length = 3 := by
  cases h : triB n l
  · rw [trgR_no h] at hj; simp at hj
  · have hn := tri_n h
    obtain ⟨m, rfl⟩ := Int.eq_ofNat_of_zero_le (show 0 ≤ n by omega)
    rw [trgR_yes h] at hj ⊢
    refine ta_row (jn m l) m m _ ?_
    unfold rowOf
    simp [hj]
theorem trgR_pre (n : Int) (l : List (Int × Int)) : pre (trgR n l) (trgR n l).length ≤ 1000000 := by
  have := pre_bd (trgR n l) 3 (fun j hj => by rw [trgR_row n l j hj]; exact Nat.le_refl _) _ (Nat.le_refl _)
  have := trgR_len n l
  omega

theorem own_row3 (w : World) (a b c : Int) : (w.alloc (.cells #[.int .i64 a, .int .i64 b, .int .i64 c] 3)).ownsRow w.heap.size 3 1 (.slice (some ⟨w.heap.size, 0, none⟩) 3 3) 3 (ics [a, b, c]) := ⟨rfl, .inr ⟨w.heap.size, 3, #[.int .i64 a, .int .i64 b, .int .i64 c], rfl, Nat.le_refl _, heap_alloc_new w _, Nat.le_refl _, by decide, rfl, rfl⟩⟩
/-- a row of three more -/
theorem push3 {wr w3 : World} {base d c A3c : Nat} {A A3 : Option Addr} {rs : List Value} {Ls : List (List Int)} {x y z : Int} (h : OwnSS wr base A c rs Ls) (hbase : base ≤ wr.heap.size) (hd : Ls.length = d)
    (ho : w3.ownsRow base 56 1 (.slice A3 (d + 1) A3c) (d + 1) (rs ++ [.slice (some ⟨wr.heap.size, 0, none⟩) 3 3]))
    (hg : ((wr.alloc (.cells #[.int .i64 x, .int .i64 y, .int .i64 z] 3)).alloc (.cells #[.slice (some ⟨wr.heap.size, 0, none⟩) 3 3] 56)).grownBy w3 (Value.slice A d c).ownBlock) :
    OwnSS w3 base A3 A3c (rs ++ [.slice (some ⟨wr.heap.size, 0, none⟩) 3 3]) (Ls ++ [[x, y, z]]) := by
  subst hd
  exact OwnSS.app (b := wr.heap.size) (w2 := wr.alloc (.cells #[.int .i64 x, .int .i64 y, .int .i64 z] 3)) (o := .cells #[.slice (some ⟨wr.heap.size, 0, none⟩) 3 3] 56) (h.alloc _) h.blk ((own_row3 wr x y z).mono hbase) (fun k hk => by
    simp [Value.ownBlock] at hk
    omega) ho hg
end Go.Proofs.Ytbpaaoeefcebeaa
