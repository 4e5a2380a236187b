/- The program's join and moveCorners (at the closures of turned and of MirrorPolygon). -/
import Derived.Test.YtbpaaoeefcebeabTurnM
import Derived.Test.YtbpaaoeefcebeabSort
import Derived.Test.YtbpaaoeefcebeabApp
namespace Go.Proofs.Ytbpaaoeefcebeab
set_option linter.unusedVariables false
open Go.RowKit

theorem impl_join (a b : Int) (w : World) : Calls Try.prog 132 #[.int .i64 a, .int .i64 b] w fun e w' => e = .returned (.agg #[.int .i64 (min a b), .int .i64 (max a b)]) ∧ Below w.heap.size w w' := by
  go_enter Try.func132, Try.ntmps132
  go_wp2
  all_goals exact bodyPost_ret (v := .agg #[.int .i64 (min a b), .int .i64 (max a b)]) (by simp [results, Try.results132, go_sem] <;> omega) rfl ⟨rfl, (Below.refl _ _).alloc (Nat.le_refl _) _⟩

/-- behind k moves: the others still zero -/
def halfM (f : Int → Int) (l : List (Int × Int)) (k : Nat) : List (Int × Int) := mvL f (l.take k) ++ List.replicate (l.length - k) (0, 0)
theorem halfM_length (f : Int → Int) (l : List (Int × Int)) (k : Nat) (h : k ≤ l.length) : (halfM f l k).length = l.length := by simp [halfM, mvL_length]; omega
theorem halfM_zero (f : Int → Int) (l : List (Int × Int)) : halfM f l 0 = List.replicate l.length (0, 0) := by simp [halfM, mvL]
theorem halfM_all (f : Int → Int) (l : List (Int × Int)) : halfM f l l.length = mvL f l := by simp [halfM]
theorem halfM_succ (f : Int → Int) (l : List (Int × Int)) (k : Nat) (h : k < l.length) : (halfM f l k).set k (mvD f (l.getD k (0, 0))) = halfM f l (k + 1) := by
  unfold halfM
  have hk : (mvL f (l.take k)).length = k := by rw [mvL_length]; simp; omega
  rw [List.set_append_right _ _ (by omega), hk, Nat.sub_self, show l.length - k = (l.length - (k + 1)) + 1 by omega, List.replicate_succ, List.set_cons_zero, mvL_take f l k h, List.append_assoc]
  simp

theorem cell_far {w w' : World} {g : Nat} {p : Addr} {v : Value} (h : w.cell? p = some v) (hg : w.grownBy w' (some g)) (hne : p.block ≠ g) : w'.cell? p = some v :=
  (World.cell?_of_block (hg.block p.block (World.block_lt_of_cell? w p h) (by intro e; injection e with e; exact hne e))).trans h
theorem far3 {B g : Nat} {w0 w w' : World} {p0 p1 p2 : Addr} {v0 v1 v2 : Value} (h : w.cell? p0 = some v0 ∧ w.cell? p1 = some v1 ∧ w.cell? p2 = some v2 ∧ Below B w0 w) (hg : w.grownBy w' (some g)) (hB : B ≤ w0.heap.size) (hgB : B ≤ g)
    (n0 : p0.block ≠ g) (n1 : p1.block ≠ g) (n2 : p2.block ≠ g) : w'.cell? p0 = some v0 ∧ w'.cell? p1 = some v1 ∧ w'.cell? p2 = some v2 ∧ Below B w0 w' :=
  ⟨cell_far h.1 hg n0, cell_far h.2.1 hg n1, cell_far h.2.2.1 hg n2, below_grown h.2.2.2 hg hB (fun k hk => by injection hk with hk; omega)⟩
theorem far4 {B g : Nat} {w0 w w' : World} {p0 p1 p2 p3 : Addr} {v0 v1 v2 v3 : Value} (h : w.cell? p0 = some v0 ∧ w.cell? p1 = some v1 ∧ w.cell? p2 = some v2 ∧ w.cell? p3 = some v3 ∧ Below B w0 w) (hg : w.grownBy w' (some g)) (hB : B ≤ w0.heap.size) (hgB : B ≤ g)
    (n0 : p0.block ≠ g) (n1 : p1.block ≠ g) (n2 : p2.block ≠ g) (n3 : p3.block ≠ g) : w'.cell? p0 = some v0 ∧ w'.cell? p1 = some v1 ∧ w'.cell? p2 = some v2 ∧ w'.cell? p3 = some v3 ∧ Below B w0 w' :=
  ⟨cell_far h.1 hg n0, cell_far h.2.1 hg n1, cell_far h.2.2.1 hg n2, cell_far h.2.2.2.1 hg n3, below_grown h.2.2.2.2 hg hB (fun k hk => by injection hk with hk; omega)⟩

theorem slices_SortFunc_n (g cap n base e : Nat) (l : List (Int × Int)) (w : World) (hn : l.length = n) (h : w.ownsRow base e 2 (.slice (some ⟨g, 0, none⟩) n cap) n (dcs l)) (h12 : n ≤ 12) :
    Calls Try.prog 133 #[.slice (some ⟨g, 0, none⟩) n cap, .func (.func 102) #[] #[]] w fun r w' =>
      r = .returned (.tuple #[]) ∧ w'.ownsRow base e 2 (.slice (some ⟨g, 0, none⟩) n cap) n (dcs (sortD l)) ∧ w.grownBy w' (some g) := by
  subst hn
  exact slices_SortFunc g cap base e l w h h12

theorem impl_turned1 (gk gn : Nat) (x k n : Int) (w : World) (hk : w.cell? ⟨gk, 0, none⟩ = some (.int .i64 k)) (hn : w.cell? ⟨gn, 0, none⟩ = some (.int .i64 n)) (hx : 0 ≤ x ∧ x < 12) (hkk : 0 ≤ k ∧ k < 12) (hnn : 1 ≤ n ∧ n ≤ 12) :
    Calls Try.prog 112 #[.int .i64 x, .pointer (some ⟨gk, 0, none⟩), .pointer (some ⟨gn, 0, none⟩)] w fun e w' => e = .returned (.int .i64 (turnF n k x)) ∧ w = w' := by
  have e0 : turnF n k x = (x + k) % n := rfl
  rw [e0]
  obtain ⟨_, _⟩ := hx
  obtain ⟨_, _⟩ := hkk
  obtain ⟨_, _⟩ := hnn
  clear e0
  go_enter Try.func112, Try.ntmps112
  go_wp2
  go_ret
  exact ⟨rfl, rfl⟩
theorem impl_turned1_h {B : Nat} {w0 : World} {p0 p1 : Addr} {v0 v1 : Value} (gk gn : Nat) (x k n : Int) (w : World) (hS : w.cell? p0 = some v0 ∧ w.cell? p1 = some v1 ∧ w.cell? ⟨gk, 0, none⟩ = some (.int .i64 k) ∧ w.cell? ⟨gn, 0, none⟩ = some (.int .i64 n) ∧ Below B w0 w) (hx : 0 ≤ x ∧ x < 12) (hkk : 0 ≤ k ∧ k < 12) (hnn : 1 ≤ n ∧ n ≤ 12) :
    Calls Try.prog 112 #[.int .i64 x, .pointer (some ⟨gk, 0, none⟩), .pointer (some ⟨gn, 0, none⟩)] w fun e w' => e = .returned (.int .i64 (turnF n k x)) ∧ w = w' := impl_turned1 gk gn x k n w hS.2.2.1 hS.2.2.2.1 hx hkk hnn
theorem impl_mirror1 (gn : Nat) (x n : Int) (w : World) (hn : w.cell? ⟨gn, 0, none⟩ = some (.int .i64 n)) (hx : 0 ≤ x ∧ x < 12) (hnn : 1 ≤ n ∧ n ≤ 12) :
    Calls Try.prog 113 #[.int .i64 x, .pointer (some ⟨gn, 0, none⟩)] w fun e w' => e = .returned (.int .i64 (mirrF n x)) ∧ w = w' := by
  have e0 : mirrF n x = n - 1 - x := rfl
  rw [e0]
  obtain ⟨_, _⟩ := hx
  obtain ⟨_, _⟩ := hnn
  clear e0
  go_enter Try.func113, Try.ntmps113
  go_wp2
  go_ret
  exact ⟨rfl, rfl⟩
theorem impl_mirror1_h {B : Nat} {w0 : World} {p0 p1 : Addr} {v0 v1 : Value} (gn : Nat) (x n : Int) (w : World) (hS : w.cell? p0 = some v0 ∧ w.cell? p1 = some v1 ∧ w.cell? ⟨gn, 0, none⟩ = some (.int .i64 n) ∧ Below B w0 w) (hx : 0 ≤ x ∧ x < 12) (hnn : 1 ≤ n ∧ n ≤ 12) :
    Calls Try.prog 113 #[.int .i64 x, .pointer (some ⟨gn, 0, none⟩)] w fun e w' => e = .returned (.int .i64 (mirrF n x)) ∧ w = w' := impl_mirror1 gn x n w hS.2.2.1 hx hnn

set_option maxRecDepth 100000 in
set_option maxHeartbeats 3200000 in
theorem impl_move_turn (gk gn : Nat) (kk n : Int) (A : Option Addr) (c B : Nat) (l : List (Int × Int)) (w : World) (hck : w.cell? ⟨gk, 0, none⟩ = some (.int .i64 kk)) (hcn : w.cell? ⟨gn, 0, none⟩ = some (.int .i64 n)) (hkk : 0 ≤ kk ∧ kk < 12) (hnn : 1 ≤ n ∧ n ≤ 12) (h : SlD w B A l) (hB : B ≤ w.heap.size) (hl : l.length ≤ 12) (hin : ∀ d ∈ l, 0 ≤ d.1 ∧ d.1 < 12 ∧ 0 ≤ d.2 ∧ d.2 < 12) :
    Calls Try.prog 111 #[.slice A l.length c, .func (.func 112) #[] #[.pointer (some ⟨gk, 0, none⟩), .pointer (some ⟨gn, 0, none⟩)]] w (GivD w (sortD (mvL (turnF n kk) l))) := by
  obtain ⟨i0, hi, hz0, hz1, hz2⟩ := info_parts infoD
  have hbytes : i0.bytes * l.length ≤ 281474976710656 := by rw [hz2]; omega
  have hmax : l.length ≤ maxLen := by unfold maxLen; omega
  go_enter Try.func111, Try.ntmps111
  go_wp2_with (at_make; refine wpList_make_full _ rfl _ _ _ rfl w.heap.size 65 i0 (.agg #[.int .i64 0, .int .i64 0]) 2 Try.underlying26 hi hz0 hz1 _ _ _ _ l.length rfl rfl rfl rfl hbytes hmax (Nat.le_refl _) ?_; intro w1 hown1 hgrow1)
  have hb1 : Below w.heap.size w w1 := (Below.refl _ _).grown hgrow1 (Nat.le_refl _) (by simp)
  rw [dcs_zeros, ← halfM_zero (turnF n kk)] at hown1
  clear hgrow1
  go_wp2
  go_loopw [6, 7, 13] (fun _ _ i wr => ∃ k : Nat, k ≤ l.length ∧ i = .int .i64 k ∧ wr.ownsRow w.heap.size 65 2 (.slice (some ⟨w.heap.size, 0, none⟩) l.length l.length) l.length (dcs (halfM (turnF n kk) l k)) ∧ Below w.heap.size w wr) (fun _ _ i _ => l.length - (intOf i).toNat)
  case atStart => exact ⟨0, Nat.zero_le _, rfl, hown1, hb1⟩
  case round =>
    obtain ⟨k, hk, rfl, ho, hb⟩ := hrel
    by_cases hlt : k < l.length
    · have hA := h.below (hb.mono hB)
      obtain ⟨b, off, rfl, hbB, hc⟩ := hA (by omega)
      obtain ⟨g0, g1⟩ := hc k hlt
      have i0 : (0 : Int) ≤ (k : Int) := by omega
      have i1 : (k : Int) < (l.length : Int) := by omega
      have hd := hin (l.getD k (0, 0)) (by simp [hlt])
      have hms := halfM_succ (turnF n kk) l k hlt
      have hkl : k < (halfM (turnF n kk) l k).length := by rw [halfM_length _ l k hk]; exact hlt
      generalize hdd : l.getD k (0, 0) = d at *
      obtain ⟨x, y⟩ := d
      dsimp only at g0 g1 hd
      obtain ⟨x0, x1, y0, y1⟩ := hd
      have hmv : mvD (turnF n kk) (x, y) = (min ((turnF n kk) x) ((turnF n kk) y), max ((turnF n kk) x) ((turnF n kk) y)) := rfl
      rw [hmv] at hms
      have hgw : w.heap.size < wr.heap.size := (ho.lt _ rfl).2
      have hgk : gk < w.heap.size := World.block_lt_of_cell? w _ hck
      have hgn : gn < w.heap.size := World.block_lt_of_cell? w _ hcn
      have ck := cell_kept hb hck
      have cn := cell_kept hb hcn
      have hoA := ho.alloc (.cells #[.int .i64 x, .int .i64 y] 65)
      have hbA := hb.alloc hb.size (.cells #[.int .i64 x, .int .i64 y] 65)
      have qa : (wr.alloc (.cells #[.int .i64 x, .int .i64 y] 65)).cell? ⟨wr.heap.size, 0, none⟩ = some (.int .i64 x) := by simp [go_sem]
      have qb : (wr.alloc (.cells #[.int .i64 x, .int .i64 y] 65)).cell? ⟨wr.heap.size, 1, none⟩ = some (.int .i64 y) := by simp [go_sem]
      have qk := cell_kept ((Below.refl wr.heap.size wr).alloc (Nat.le_refl _) (.cells #[.int .i64 x, .int .i64 y] 65)) ck
      have qn := cell_kept ((Below.refl wr.heap.size wr).alloc (Nat.le_refl _) (.cells #[.int .i64 x, .int .i64 y] 65)) cn
      have Hms := Lib.hid hms
      have Hkl := Lib.hid hkl
      have HoA := Lib.hid hoA
      have HbA := Lib.hid hbA
      clear hc hown1 hb1 hA h hdd hms hmv hkl hoA hbA ho hb
      go_wp2
      go_region_held3 (fun w' => w'.cell? ⟨wr.heap.size, 0, none⟩ = some (.int .i64 x) ∧ w'.cell? ⟨wr.heap.size, 1, none⟩ = some (.int .i64 y) ∧
          w'.cell? ⟨gk, 0, none⟩ = some (.int .i64 kk) ∧ w'.cell? ⟨gn, 0, none⟩ = some (.int .i64 n) ∧ Below w.heap.size w w')
        (first
          | assumption
          | exact kept4 (by assumption) hb1 (Nat.le_refl _)
          | exact far4 (by assumption) (stored2 o1 k Hkl.out _ _).2 (Nat.le_refl _) (Nat.le_refl _) (by show wr.heap.size ≠ w.heap.size; omega) (by show wr.heap.size ≠ w.heap.size; omega) (by show gk ≠ w.heap.size; omega) (by show gn ≠ w.heap.size; omega)
          | exact ⟨qa, qb, qk, qn, HbA.out.drew⟩)
        (first
          | (go_at_call 112; refine (impl_turned1_h _ _ _ kk n _ (by assumption) (by constructor <;> assumption) hkk hnn).mono ?_; rintro e w1 ⟨rfl, rfl⟩)
          | (go_at_call 132; refine (impl_join _ _ _).mono ?_; rintro e w1 ⟨rfl, hb1⟩
             have o1 := own_kept (HoA.out).drew hb1
             have c0 : w1.cell? ⟨w.heap.size, k * 2, none⟩ = some (.int .i64 ((halfM (turnF n kk) l k).getD k (0, 0)).1) := by rw [o1.cellAt _ (by omega), dcs_get0 _ _ Hkl.out]
             have c1 : w1.cell? ⟨w.heap.size, k * 2 + 1, none⟩ = some (.int .i64 ((halfM (turnF n kk) l k).getD k (0, 0)).2) := by rw [o1.cellAt _ (by omega), dcs_get1 _ _ Hkl.out]
             have f0 := o1.frozenAt (k * 2)
             have f1 := o1.frozenAt (k * 2 + 1)))
      all_goals
        rename_i hS
        have hbF := hS.2.2.2.2
        obtain ⟨hs1, hs2⟩ := stored2 o1 k Hkl.out (min ((turnF n kk) x) ((turnF n kk) y)) (max ((turnF n kk) x) ((turnF n kk) y))
        rw [Hms.out] at hs1
        clear o1 c0 c1 f0 f1 hb1 hs2 hS g0 g1
        go_wp2
        go_roundw
        case rel => exact ⟨k + 1, by omega, by go_num, hs1, hbF⟩
        case measure => simp [intOf]; omega
    · obtain rfl : k = l.length := by omega
      rw [halfM_all] at ho
      have hL2 := mvL_length (turnF n kk) l
      have HL2 := Lib.hid hL2
      clear hL2 hown1 hb1
      generalize mvL (turnF n kk) l = L at *
      clear h
      go_wp2_with fail
      refine (slices_SortFunc_n w.heap.size l.length l.length w.heap.size 65 L _ HL2.out ho hl).mono ?_
      rintro e w2 ⟨rfl, o9, b9⟩
      have hbF := below_grown hb b9 (Nat.le_refl _) (by intro k hk; injection hk with hk; omega)
      have hln : (sortD L).length = l.length := by rw [sortD_length, HL2.out]
      have hres : GivD w (sortD L) (.returned (.slice (some ⟨w.heap.size, 0, none⟩) l.length l.length)) w2 := ⟨some ⟨w.heap.size, 0, none⟩, l.length, by rw [hln], by rw [hln]; exact o9, hbF⟩
      have Hres := Lib.hid hres
      clear hres o9 b9 hb ho hbF hln
      go_wp2
      go_ret
      exact Hres.out

set_option maxRecDepth 100000 in
set_option maxHeartbeats 3200000 in
theorem impl_move_mirror (gn : Nat) (n : Int) (A : Option Addr) (c B : Nat) (l : List (Int × Int)) (w : World) (hcn : w.cell? ⟨gn, 0, none⟩ = some (.int .i64 n)) (hnn : 1 ≤ n ∧ n ≤ 12) (h : SlD w B A l) (hB : B ≤ w.heap.size) (hl : l.length ≤ 12) (hin : ∀ d ∈ l, 0 ≤ d.1 ∧ d.1 < 12 ∧ 0 ≤ d.2 ∧ d.2 < 12) :
    Calls Try.prog 111 #[.slice A l.length c, .func (.func 113) #[] #[.pointer (some ⟨gn, 0, none⟩)]] w (GivD w (sortD (mvL (mirrF n) l))) := by
  obtain ⟨i0, hi, hz0, hz1, hz2⟩ := info_parts infoD
  have hbytes : i0.bytes * l.length ≤ 281474976710656 := by rw [hz2]; omega
  have hmax : l.length ≤ maxLen := by unfold maxLen; omega
  go_enter Try.func111, Try.ntmps111
  go_wp2_with (at_make; refine wpList_make_full _ rfl _ _ _ rfl w.heap.size 65 i0 (.agg #[.int .i64 0, .int .i64 0]) 2 Try.underlying26 hi hz0 hz1 _ _ _ _ l.length rfl rfl rfl rfl hbytes hmax (Nat.le_refl _) ?_; intro w1 hown1 hgrow1)
  have hb1 : Below w.heap.size w w1 := (Below.refl _ _).grown hgrow1 (Nat.le_refl _) (by simp)
  rw [dcs_zeros, ← halfM_zero (mirrF n)] at hown1
  clear hgrow1
  go_wp2
  go_loopw [6, 7, 13] (fun _ _ i wr => ∃ k : Nat, k ≤ l.length ∧ i = .int .i64 k ∧ wr.ownsRow w.heap.size 65 2 (.slice (some ⟨w.heap.size, 0, none⟩) l.length l.length) l.length (dcs (halfM (mirrF n) l k)) ∧ Below w.heap.size w wr) (fun _ _ i _ => l.length - (intOf i).toNat)
  case atStart => exact ⟨0, Nat.zero_le _, rfl, hown1, hb1⟩
  case round =>
    obtain ⟨k, hk, rfl, ho, hb⟩ := hrel
    by_cases hlt : k < l.length
    · have hA := h.below (hb.mono hB)
      obtain ⟨b, off, rfl, hbB, hc⟩ := hA (by omega)
      obtain ⟨g0, g1⟩ := hc k hlt
      have i0 : (0 : Int) ≤ (k : Int) := by omega
      have i1 : (k : Int) < (l.length : Int) := by omega
      have hd := hin (l.getD k (0, 0)) (by simp [hlt])
      have hms := halfM_succ (mirrF n) l k hlt
      have hkl : k < (halfM (mirrF n) l k).length := by rw [halfM_length _ l k hk]; exact hlt
      generalize hdd : l.getD k (0, 0) = d at *
      obtain ⟨x, y⟩ := d
      dsimp only at g0 g1 hd
      obtain ⟨x0, x1, y0, y1⟩ := hd
      have hmv : mvD (mirrF n) (x, y) = (min ((mirrF n) x) ((mirrF n) y), max ((mirrF n) x) ((mirrF n) y)) := rfl
      rw [hmv] at hms
      have hgw : w.heap.size < wr.heap.size := (ho.lt _ rfl).2
      have hgn : gn < w.heap.size := World.block_lt_of_cell? w _ hcn
      have cn := cell_kept hb hcn
      have hoA := ho.alloc (.cells #[.int .i64 x, .int .i64 y] 65)
      have hbA := hb.alloc hb.size (.cells #[.int .i64 x, .int .i64 y] 65)
      have qa : (wr.alloc (.cells #[.int .i64 x, .int .i64 y] 65)).cell? ⟨wr.heap.size, 0, none⟩ = some (.int .i64 x) := by simp [go_sem]
      have qb : (wr.alloc (.cells #[.int .i64 x, .int .i64 y] 65)).cell? ⟨wr.heap.size, 1, none⟩ = some (.int .i64 y) := by simp [go_sem]
      have qn := cell_kept ((Below.refl wr.heap.size wr).alloc (Nat.le_refl _) (.cells #[.int .i64 x, .int .i64 y] 65)) cn
      have Hms := Lib.hid hms
      have Hkl := Lib.hid hkl
      have HoA := Lib.hid hoA
      have HbA := Lib.hid hbA
      clear hc hown1 hb1 hA h hdd hms hmv hkl hoA hbA ho hb
      go_wp2
      go_region_held3 (fun w' => w'.cell? ⟨wr.heap.size, 0, none⟩ = some (.int .i64 x) ∧ w'.cell? ⟨wr.heap.size, 1, none⟩ = some (.int .i64 y) ∧
          w'.cell? ⟨gn, 0, none⟩ = some (.int .i64 n) ∧ Below w.heap.size w w')
        (first
          | assumption
          | exact kept3 (by assumption) hb1 (Nat.le_refl _)
          | exact far3 (by assumption) (stored2 o1 k Hkl.out _ _).2 (Nat.le_refl _) (Nat.le_refl _) (by show wr.heap.size ≠ w.heap.size; omega) (by show wr.heap.size ≠ w.heap.size; omega) (by show gn ≠ w.heap.size; omega)
          | exact ⟨qa, qb, qn, HbA.out.drew⟩)
        (first
          | (go_at_call 113; refine (impl_mirror1_h _ _ n _ (by assumption) (by constructor <;> assumption) hnn).mono ?_; rintro e w1 ⟨rfl, rfl⟩)
          | (go_at_call 132; refine (impl_join _ _ _).mono ?_; rintro e w1 ⟨rfl, hb1⟩
             have o1 := own_kept (HoA.out).drew hb1
             have c0 : w1.cell? ⟨w.heap.size, k * 2, none⟩ = some (.int .i64 ((halfM (mirrF n) l k).getD k (0, 0)).1) := by rw [o1.cellAt _ (by omega), dcs_get0 _ _ Hkl.out]
             have c1 : w1.cell? ⟨w.heap.size, k * 2 + 1, none⟩ = some (.int .i64 ((halfM (mirrF n) l k).getD k (0, 0)).2) := by rw [o1.cellAt _ (by omega), dcs_get1 _ _ Hkl.out]
             have f0 := o1.frozenAt (k * 2)
             have f1 := o1.frozenAt (k * 2 + 1)))
      all_goals
        rename_i hS
        have hbF := hS.2.2.2
        obtain ⟨hs1, hs2⟩ := stored2 o1 k Hkl.out (min ((mirrF n) x) ((mirrF n) y)) (max ((mirrF n) x) ((mirrF n) y))
        rw [Hms.out] at hs1
        clear o1 c0 c1 f0 f1 hb1 hs2 hS g0 g1
        go_wp2
        go_roundw
        case rel => exact ⟨k + 1, by omega, by go_num, hs1, hbF⟩
        case measure => simp [intOf]; omega
    · obtain rfl : k = l.length := by omega
      rw [halfM_all] at ho
      have hL2 := mvL_length (mirrF n) l
      have HL2 := Lib.hid hL2
      clear hL2 hown1 hb1
      generalize mvL (mirrF n) l = L at *
      clear h
      go_wp2_with fail
      refine (slices_SortFunc_n w.heap.size l.length l.length w.heap.size 65 L _ HL2.out ho hl).mono ?_
      rintro e w2 ⟨rfl, o9, b9⟩
      have hbF := below_grown hb b9 (Nat.le_refl _) (by intro k hk; injection hk with hk; omega)
      have hln : (sortD L).length = l.length := by rw [sortD_length, HL2.out]
      have hres : GivD w (sortD L) (.returned (.slice (some ⟨w.heap.size, 0, none⟩) l.length l.length)) w2 := ⟨some ⟨w.heap.size, 0, none⟩, l.length, by rw [hln], by rw [hln]; exact o9, hbF⟩
      have Hres := Lib.hid hres
      clear hres o9 b9 hb ho hbF hln
      go_wp2
      go_ret
      exact Hres.out
end Go.Proofs.Ytbpaaoeefcebeab
