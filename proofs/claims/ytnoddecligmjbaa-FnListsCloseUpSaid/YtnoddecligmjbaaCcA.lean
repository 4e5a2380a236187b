/- CcA: one text, since a claim holds 60 files at most. -/
import Derived.Test.YtnoddecligmjbaaPuzH
import Derived.Test.YtnoddecligmjbaaOpen
import Derived.Test.YtnoddecligmjbaaApp
import Derived.Test.YtnoddecligmjbaaMkM
import Derived.Test.YtnoddecligmjbaaRevM
import Derived.Test.YtnoddecligmjbaaFrM
import Derived.Test.YtnoddecligmjbaaMlM
import Derived.Test.YtnoddecligmjbaaPutM
import Derived.Test.YtnoddecligmjbaaSqW
import Derived.Test.YtnoddecligmjbaaLawM
import Derived.Test.YtnoddecligmjbaaMatL
import Derived.Test.YtnoddecligmjbaaPutA
import Derived.Test.YtnoddecligmjbaaContW
import Derived.Test.YtnoddecligmjbaaTriOfJ
import Derived.Test.YtnoddecligmjbaaMatE
import Derived.Test.YtnoddecligmjbaaMatI
import Derived.IntWalk
import Derived.BigQuiet
import Derived.Deep.QuietTactic
import Derived.Deep.Cut
import Derived.Deep.DeepCutAuto
/- CurN: The cursor that the draws read: its next byte. -/
namespace Go.Proofs.Ytnoddecligmjbaa
set_option linter.unusedVariables false
open Go.RowKit

/-- a slice of bytes, below block B -/
def CodeB (w : World) (B : Nat) (A : Option Addr) (n : Nat) : Prop :=
  0 < n → ∃ b off, A = some ⟨b, off, none⟩ ∧ b < B ∧ ∀ j, j < n → ∃ x : Int, (0 ≤ x ∧ x ≤ 255) ∧ w.cell? ⟨b, off + j, none⟩ = some (.int .u8 x)
theorem CodeB.keep {w w' : World} {B : Nat} {A : Option Addr} {n : Nat} (h : CodeB w B A n) (hk : ∀ b o, b < B → w'.cell? ⟨b, o, none⟩ = w.cell? ⟨b, o, none⟩) : CodeB w' B A n := fun h0 => by
  obtain ⟨b, off, e, hb, hc⟩ := h h0
  refine ⟨b, off, e, hb, fun j hj => ?_⟩
  obtain ⟨x, hx, hc⟩ := hc j hj
  exact ⟨x, hx, (hk _ _ hb).trans hc⟩
/-- a cursor: block g; it has taken at most N bytes -/
def Cur (w : World) (g N : Nat) : Prop :=
  ∃ (A : Option Addr) (n c a : Nat) (s : Int), n ≤ 1048576 ∧ a ≤ N ∧ (0 ≤ s ∧ s ≤ 18446744073709551615) ∧ w.heap[g]? = some (.cells #[.slice A n c, .int .i64 a, .int .u64 s] 99) ∧ CodeB w g A n
theorem Cur.more {w : World} {g N N' : Nat} (h : Cur w g N) (hN : N ≤ N') : Cur w g N' := by
  obtain ⟨A, n, c, a, s, h1, h2, h3, h4, h5⟩ := h
  exact ⟨A, n, c, a, s, h1, by omega, h3, h4, h5⟩
theorem Cur.lt {w : World} {g N : Nat} (h : Cur w g N) : g < w.heap.size := by
  obtain ⟨A, n, c, a, s, h1, h2, h3, h4, h5⟩ := h
  exact (Array.getElem?_eq_some_iff.1 h4).1
theorem Cur.kept {w w' : World} {g N : Nat} (h : Cur w g N) (hb : Below w.heap.size w w') : Cur w' g N := by
  have hl := h.lt
  obtain ⟨A, n, c, a, s, h1, h2, h3, h4, h5⟩ := h
  exact ⟨A, n, c, a, s, h1, h2, h3, (hb.block g hl).trans h4, h5.keep fun b o hb' => hb.cell (p := ⟨b, o, none⟩) (Nat.lt_trans hb' hl)⟩
theorem Cur.far {w w' : World} {g N : Nat} {row : Option Nat} (h : Cur w g N) (hg : w.grownBy w' row) (hr : ∀ k, row = some k → g < k) : Cur w' g N := by
  have hl := h.lt
  have hne : ∀ b, b ≤ g → some b ≠ row := fun b hb e => by have := hr b e.symm; omega
  obtain ⟨A, n, c, a, s, h1, h2, h3, h4, h5⟩ := h
  refine ⟨A, n, c, a, s, h1, h2, h3, (hg.block g hl (hne g (Nat.le_refl _))).trans h4, h5.keep fun b o hb' => ?_⟩
  exact World.cell?_of_block (w := w) (hg.block b (Nat.lt_trans hb' hl) (hne b (Nat.le_of_lt hb')))
theorem grownC_drewN {w w' : World} {row : Option Nat} (h : w.grownBy w' row) (k : Nat) : w.grownBy (w'.drewN k) row := ⟨h.os, h.tape, h.output, h.size, h.block⟩

theorem grownC_set (w : World) (g j : Nat) (v : Value) : w.grownBy (w.setCell ⟨g, j, none⟩ v) (some g) :=
  ⟨rfl, rfl, rfl, by simp, fun k _ hk => heap_setCell_other w ⟨g, j, none⟩ k v (fun e => hk (by simp [e]))⟩
theorem cur_step {w : World} {g : Nat} {v : Value} {a s : Int} {t : TypeId} (h : w.heap[g]? = some (.cells #[v, .int .i64 a, .int .u64 s] t)) (k : Nat) (a' s' : Int) :
    ∃ w4, w4 = ((w.drewN k).setCell ⟨g, 1, none⟩ (.int .i64 a')).setCell ⟨g, 2, none⟩ (.int .u64 s') ∧ w4.heap[g]? = some (.cells #[v, .int .i64 a', .int .u64 s'] t) ∧ w.grownBy w4 (some g) := by
  refine ⟨_, rfl, ?_, ?_⟩
  · have h1 := heap_setCell_same (w.drewN k) g 1 _ _ (.int .i64 a') (show (w.drewN k).heap[g]? = _ from h)
    have h2 := heap_setCell_same _ g 2 _ _ (.int .u64 s') h1
    simpa using h2
  · exact World.grownBy.trans (grownC_drewN (World.grownBy.refl w _) k) ((grownC_set _ g 1 _).trans (grownC_set _ g 2 _))
theorem wrap_u64 (x : Int) : 0 ≤ IntKind.u64.wrap x ∧ IntKind.u64.wrap x ≤ 18446744073709551615 := by
  unfold IntKind.wrap
  simp [IntKind.bits, IntKind.signed]
  omega

theorem and_255 (x : Int) : 0 ≤ bits .and .u64 x 255 ∧ bits .and .u64 x 255 ≤ 255 := by
  have h : (BitVec.ofInt 64 x &&& BitVec.ofInt 64 255).toNat ≤ 255 := by
    rw [BitVec.toNat_and]
    exact Nat.le_trans Nat.and_le_right (by decide)
  have e : bits .and .u64 x 255 = IntKind.u64.wrap ((BitVec.ofInt 64 x &&& BitVec.ofInt 64 255).toNat : Int) := rfl
  rw [e]
  generalize (BitVec.ofInt 64 x &&& BitVec.ofInt 64 255).toNat = y at *
  unfold IntKind.wrap
  simp [IntKind.bits, IntKind.signed]
  omega

set_option maxRecDepth 100000 in
set_option maxHeartbeats 6400000 in
theorem spec_next (g N : Nat) (w : World) (h : Cur w g N) (hN : N ≤ 1000000000000) :
    Calls Try.prog 164 #[.pointer (some ⟨g, 0, none⟩)] w fun e w' => ∃ r : Int, e = .returned (.int .i64 r) ∧ (0 ≤ r ∧ r ≤ 255) ∧ Cur w' g (N + 1) ∧ w.grownBy w' (some g) := by
  obtain ⟨A, n, c, a, s, h1, h2, ⟨s0, s1⟩, h4, h5⟩ := h
  have c0 : w.cell? ⟨g, 0, none⟩ = some (.slice A n c) := by simp [World.cell?, h4]
  have c1 : w.cell? ⟨g, 1, none⟩ = some (.int .i64 a) := by simp [World.cell?, h4]
  have c2 : w.cell? ⟨g, 2, none⟩ = some (.int .u64 s) := by simp [World.cell?, h4]
  have f1 : w.frozen? ⟨g, 1, none⟩ = false := by simp [World.frozen?, h4]
  have f2 : w.frozen? ⟨g, 2, none⟩ = false := by simp [World.frozen?, h4]
  have a0 : (a : Int) ≤ 1000000000000 := by omega
  have n0 : (n : Int) ≤ 1048576 := by omega
  have hgl : g < w.heap.size := (Array.getElem?_eq_some_iff.1 h4).1
  have HE : Hid (∀ (k : Nat) (s' : Int), 0 ≤ s' ∧ s' ≤ 18446744073709551615 → ∃ w4, w4 = ((w.drewN k).setCell ⟨g, 1, none⟩ (.int .i64 ((a : Int) + 1))).setCell ⟨g, 2, none⟩ (.int .u64 s') ∧ Cur w4 g (N + 1) ∧ w.grownBy w4 (some g) ∧ w4.cell? ⟨g, 0, none⟩ = some (.slice A n c) ∧ w4.cell? ⟨g, 1, none⟩ = some (.int .i64 ((a : Int) + 1)) ∧ w4.cell? ⟨g, 2, none⟩ = some (.int .u64 s')) := Lib.hid fun k s' hs' => by
    obtain ⟨w4, e4, k4, g4⟩ := cur_step h4 k ((a : Int) + 1) s'
    refine ⟨w4, e4, ⟨A, n, c, a + 1, s', h1, by omega, hs', k4, h5.keep fun b o hb => ?_⟩, g4, by simp [World.cell?, k4], by simp [World.cell?, k4], by simp [World.cell?, k4]⟩
    exact World.cell?_of_block (w := w) (g4.block b (Nat.lt_trans hb hgl) (fun e => by injection e with e; omega))
  by_cases hlt : a < n
  · obtain ⟨b, off, rfl, hb, hc⟩ := h5 (by omega)
    obtain ⟨x, ⟨x0, x1⟩, cx⟩ := hc a hlt
    have i1 : (a : Int) < (n : Int) := by omega
    have i2 : (a : Int) + 1 ≤ (n : Int) := by omega
    clear h4 h5 hc hgl
    go_enter Try.func164, Try.ntmps164
    go_wp2
    go_quiet (fail)
    rename Nat => k1
    go_wp2
    go_quiet (fail)
    rename Nat => k2
    go_wp2
    have hsw := wrap_u64 (IntKind.u64.wrap (IntKind.u64.wrap (s * 6364136223846793005) + x) + 1442695040888963407)
    generalize IntKind.u64.wrap (IntKind.u64.wrap (IntKind.u64.wrap (s * 6364136223846793005) + x) + 1442695040888963407) = s' at *
    obtain ⟨w4, e4, hcur, hg4, d0, d1, d2⟩ := HE.out (k1 + k2) s' hsw
    rw [← e4]
    have HF := Lib.hid (And.intro hcur hg4)
    clear HE c0 c1 c2 f1 f2 cx e4 hcur hg4
    go_quiet (fail)
    rename Nat => k3
    go_wp2
    go_ret
    exact ⟨x, rfl, ⟨x0, x1⟩, HF.out.1, grownC_drewN HF.out.2 k3⟩
  · have i1 : ¬ (a : Int) < (n : Int) := by omega
    have i2 : ¬ (a : Int) + 1 ≤ (n : Int) := by omega
    clear h4 h5 hgl
    go_enter Try.func164, Try.ntmps164
    go_wp2
    go_quiet (fail)
    rename Nat => k1
    go_wp2
    have hsw := wrap_u64 (IntKind.u64.wrap (IntKind.u64.wrap (s * 6364136223846793005)) + 1442695040888963407)
    generalize IntKind.u64.wrap (IntKind.u64.wrap (IntKind.u64.wrap (s * 6364136223846793005)) + 1442695040888963407) = s' at *
    obtain ⟨w4, e4, hcur, hg4, d0, d1, d2⟩ := HE.out k1 s' hsw
    rw [← e4]
    have HF := Lib.hid (And.intro hcur hg4)
    clear HE c0 c1 c2 f1 f2 e4 hcur hg4
    go_quiet (fail)
    rename Nat => k3
    go_wp2
    have hr := and_255 (s' / 1099511627776)
    have hw : wrap64 (bits BinOp.and IntKind.u64 (s' / 1099511627776) 255) = bits BinOp.and IntKind.u64 (s' / 1099511627776) 255 := by unfold wrap64; omega
    go_ret
    exact ⟨wrap64 (bits BinOp.and IntKind.u64 (s' / 1099511627776) 255), rfl, by rw [hw]; exact hr, HF.out.1, grownC_drewN HF.out.2 k3⟩
end Go.Proofs.Ytnoddecligmjbaa

/- OpenB: Arguments of a general law opened: slices of bytes. -/
namespace Go.Proofs.Ytnoddecligmjbaa
open Go.ChangeShapes Go.WideShapes Go.ChangeAt Go.RowKit Go.Joins Go.Deep

namespace Opens
section
variable {H : Type} {enc : TypeId × Value → H} {P : Program} {w : World} {base : Nat} {spare : Nat → Bool} {held : Bool}
theorem bytes_ {r : Reach} {b0 : Nat} {t e : TypeId} {v : Value} {d : DataW H} {p : List MemPlace} (hs : P.underlying t = some (.slice e)) (he : P.underlying e = some (.int .u8)) (hC : P.cellsOf e = 1)
    (hv : Value.okWide P w r b0 t v) (h : DataW.Trod enc P w base spare held t v d p) :
    ∃ (A : Option Addr) (n c : Nat), v = .slice A n c ∧ CodeB w w.heap.size A n ∧ n ≤ maxLen := by
  obtain ⟨A, n, c, rfl⟩ := okWide_slice hs hv
  obtain ⟨fuel, hf⟩ := h
  rcases open_ints hs he hC hf with ⟨hcs, _⟩ | ⟨a, len, cap, zs, hcs, _, hl, hm, hz, _, hcell, hwz⟩
  · simp [Value.cells] at hcs
    obtain ⟨rfl, rfl, rfl⟩ := hcs
    exact ⟨none, 0, 0, rfl, fun h => by omega, by simp [maxLen]⟩
  · simp [Value.cells] at hcs
    obtain ⟨rfl, rfl, rfl⟩ := hcs
    have hle : n ≤ zs.length := by rw [hz]; split <;> omega
    refine ⟨some a, n, c, rfl, fun h0 => ?_, by omega⟩
    have hc0 := hcell 0 (by omega)
    obtain ⟨b, off, spot⟩ := a
    have hsp : spot = none := by simpa [Addr.add] using World.cell?_spot hc0
    subst hsp
    refine ⟨b, off, rfl, ?_, fun j hj => ?_⟩
    · have := World.block_lt_of_cell? w _ hc0
      simpa [Addr.add] using this
    · have hcj := hcell j (by omega)
      rw [Addr.add_lit] at hcj
      have hj2 : j < zs.length := by omega
      refine ⟨zs.getD j 0, bounds_u8 (hwz _ ?_), hcj⟩
      rw [List.getD_eq_getElem?_getD, List.getElem?_eq_getElem hj2]
      exact List.getElem_mem hj2
end
end Opens
end Go.Proofs.Ytnoddecligmjbaa

/- CurP: The cursor's choices: a number below another, one of a list; a list of terms. -/
namespace Go.Proofs.Ytnoddecligmjbaa
open Go.RowKit

/-- behind what has turned block g and new ones -/
theorem grownC_new {w w1 w2 : World} {g : Nat} {row : Option Nat} (h : w.grownBy w1 (some g)) (hg : w1.grownBy w2 row) (hr : ∀ k, row = some k → w.heap.size ≤ k) : w.grownBy w2 (some g) :=
  ⟨hg.os.trans h.os, hg.tape.trans h.tape, hg.output.trans h.output, Nat.le_trans h.size hg.size, fun k hk hne => (hg.block k (Nat.lt_of_lt_of_le hk h.size) (fun e => by have := hr k e.symm; omega)).trans (h.block k hk hne)⟩
theorem grownC_below {w w1 w2 : World} {g : Nat} (h : w.grownBy w1 (some g)) (hb : Below w1.heap.size w1 w2) : w.grownBy w2 (some g) :=
  ⟨hb.os.trans h.os, hb.tape.trans h.tape, hb.output.trans h.output, Nat.le_trans h.size hb.size, fun k hk hne => (hb.block k (Nat.lt_of_lt_of_le hk h.size)).trans (h.block k hk hne)⟩
/-- a choice: what it tells, the cursor behind it -/
def Chosen (w : World) (g N : Nat) (P : Int → Prop) (e : Ending) (w' : World) : Prop := ∃ r : Int, e = .returned (.int .i64 r) ∧ P r ∧ Cur w' g N ∧ w.grownBy w' (some g)

set_option maxRecDepth 100000 in
set_option maxHeartbeats 1600000 in
theorem spec_pick (g N : Nat) (m : Int) (w : World) (h : Cur w g N) (hN : N ≤ 100000000000) (hm : m ≤ 1000000) :
    Calls Try.prog 131 #[.pointer (some ⟨g, 0, none⟩), .int .i64 m] w (Chosen w g (N + 2) fun r => 0 ≤ r ∧ (r = 0 ∨ r < m)) := by
  by_cases h1 : m ≤ 1
  · have HE : Hid (Chosen w g (N + 2) (fun r => 0 ≤ r ∧ (r = 0 ∨ r < m)) (.returned (.int .i64 0)) w) := Lib.hid ⟨0, rfl, ⟨by omega, .inl rfl⟩, h.more (by omega), World.grownBy.refl w _⟩
    clear h
    go_enter Try.func131, Try.ntmps131
    go_wp2
    go_ret
    exact HE.out
  · have HN := Lib.hid (spec_next g N w h (by omega))
    have HE : Hid (∀ (r : Int) (w' : World), 0 ≤ r → Cur w' g (N + 2) → w.grownBy w' (some g) → Chosen w g (N + 2) (fun r => 0 ≤ r ∧ (r = 0 ∨ r < m)) (.returned (.int .i64 (r % m))) w') := Lib.hid fun r w' hr hc hg => ⟨r % m, rfl, ⟨Int.emod_nonneg _ (by omega), .inr (Int.emod_lt_of_pos _ (by omega))⟩, hc, hg⟩
    have m0 : m ≠ 0 := by omega
    clear h
    go_enter Try.func131, Try.ntmps131
    go_wp2_with fail
    refine HN.out.mono ?_
    rintro e w1 ⟨r, rfl, ⟨r0, r1⟩, hc, hg⟩
    clear HN
    by_cases h2 : 200 < m
    · have HN2 := Lib.hid (spec_next g (N + 1) w1 hc (by omega))
      have Hg := Lib.hid hg
      clear hc hg
      go_wp2_with fail
      refine HN2.out.mono ?_
      rintro e w2 ⟨r2, rfl, ⟨r20, r21⟩, hc2, hg2⟩
      have x0 : 0 ≤ r * 256 + r2 := by omega
      have hlt := Int.emod_lt_of_pos (r * 256 + r2) (show 0 < m by omega)
      have hge := Int.emod_nonneg (r * 256 + r2) m0
      have HF := Lib.hid (HE.out _ _ x0 hc2 (Hg.out.trans hg2))
      have hw : IntKind.i64.wrap ((r * 256 + r2) % m) = (r * 256 + r2) % m := IntWalk.i64_in _ (by omega)
      clear hc2 hg2 HN2 Hg HE
      go_wp2
      go_ret
      exact HF.out
    · have HF := Lib.hid (HE.out _ _ r0 (hc.more (by omega)) hg)
      have hlt := Int.emod_lt_of_pos r (show 0 < m by omega)
      have hge := Int.emod_nonneg r m0
      have hw : IntKind.i64.wrap (r % m) = r % m := IntWalk.i64_in _ (by omega)
      clear hc hg HE
      go_wp2
      go_ret
      exact HF.out
theorem spec_one (g N : Nat) (m : Int) (w : World) (h : Cur w g N) (hN : N ≤ 100000000000) (hm : m ≤ 1000000) :
    Calls Try.prog 137 #[.pointer (some ⟨g, 0, none⟩), .int .i64 m] w fun e w' => ∃ b : Bool, e = .returned (.bool b) ∧ Cur w' g (N + 2) ∧ w.grownBy w' (some g) := by
  have HN := Lib.hid (spec_pick g N m w h hN hm)
  clear h
  go_enter Try.func137, Try.ntmps137
  go_wp2_with fail
  refine HN.out.mono ?_
  rintro e w1 ⟨r, rfl, _, hc, hg⟩
  have HC := Lib.hid hc
  have HG := Lib.hid hg
  clear hc hg HN
  go_wp2
  go_ret
  exact ⟨_, rfl, HC.out, HG.out⟩
set_option maxRecDepth 100000 in
theorem spec_among (g N b n c : Nat) (l : List Int) (w : World) (h : Cur w g N) (hN : N ≤ 100000000000) (hn : l.length = n) (hb : b < w.heap.size) (hbg : b ≠ g) (hcell : ∀ j, j < n → w.cell? ⟨b, j, none⟩ = some (.int .i64 (l.getD j 0))) (h0 : 0 < n) (hl : n ≤ 1000) :
    Calls Try.prog 129 #[.pointer (some ⟨g, 0, none⟩), .slice (some ⟨b, 0, none⟩) n c] w (Chosen w g (N + 2) fun r => r ∈ l) := by
  have HN := Lib.hid (spec_pick g N n w h hN (by omega))
  have HS := Lib.hid hcell
  have Hn := Lib.hid hn
  clear h hcell hn
  go_enter Try.func129, Try.ntmps129
  go_wp2_with fail
  refine HN.out.mono ?_
  rintro e w1 ⟨r, rfl, ⟨r0, r1⟩, hc, hg⟩
  obtain ⟨j, rfl⟩ := Int.eq_ofNat_of_zero_le r0
  have hj : j < n := by omega
  have hji : (j : Int) < (n : Int) := by omega
  have g0 : w1.cell? ⟨b, j, none⟩ = some (.int .i64 (l.getD j 0)) := by
    rw [← HS.out j hj]
    exact World.cell?_of_block (w := w) (hg.block b hb (fun e => hbg (by injection e)))
  have HE : Hid (Chosen w g (N + 2) (fun r => r ∈ l) (.returned (.int .i64 (l.getD j 0))) w1) := Lib.hid ⟨_, rfl, by rw [List.getD_eq_getElem?_getD, List.getElem?_eq_getElem (by rw [Hn.out]; exact hj)]; exact List.getElem_mem _, hc, hg⟩
  clear hc hg HN HS r1 Hn
  generalize l.getD j 0 = x at *
  go_wp2
  go_ret
  exact HE.out

/-- the length in a slice's value -/
def lenW : Value → Nat
  | .slice _ m _ => m
  | _ => 0
/-- a list that grows while choices are made -/
def Grows (w : World) (g N : Nat) (v : Value) (k : Nat) (wr : World) : Prop :=
  ∃ (A : Option Addr) (c : Nat) (l : List Int), v = .slice A l.length c ∧ l.length = k ∧ wr.ownsRow w.heap.size 3 1 (.slice A l.length c) l.length (ics l) ∧ Cur wr g N ∧ w.grownBy wr (some g)
theorem Grows.push {w wr w3 : World} {g N N' : Nat} {A : Option Addr} {c : Nat} {l : List Int} (hg : w.grownBy wr (some g)) (hc : Cur wr g N') (hN : N' ≤ N) (hlt : g < w.heap.size) (x : Int)
    (ho : wr.ownsRow w.heap.size 3 1 (.slice A l.length c) l.length (ics l)) {A3 : Option Addr} {c3 : Nat} (o3 : w3.ownsRow w.heap.size 3 1 (.slice A3 (l.length + 1) c3) (l.length + 1) (ics (l ++ [x]))) (g3 : (wr.alloc (.cells #[.int .i64 x] 3)).grownBy w3 (Value.slice A l.length c).ownBlock) :
    Grows w g N (.slice A3 (l.length + 1) c3) (l.length + 1) w3 := by
  have hr : ∀ k, (Value.slice A l.length c).ownBlock = some k → w.heap.size ≤ k := fun k hk => (ho.lt k hk).1
  have ha : Below wr.heap.size wr (wr.alloc (.cells #[.int .i64 x] 3)) := below_box (Below.refl _ _) (Nat.le_refl _) _
  exact ⟨A3, c3, l ++ [x], by simp, by simp, by simpa using o3, ((hc.kept ha).far g3 (fun k hk => Nat.lt_of_lt_of_le hlt (hr k hk))).more hN, grownC_new (grownC_below hg ha) g3 hr⟩

/-- a list drawn: new, at most so long -/
def Drawn (w : World) (g N M : Nat) (e : Ending) (w' : World) : Prop :=
  ∃ (A : Option Addr) (c : Nat) (l : List Int), e = .returned (.slice A l.length c) ∧ l.length ≤ M ∧ w'.ownsRow w.heap.size 3 1 (.slice A l.length c) l.length (ics l) ∧ Cur w' g N ∧ w.grownBy w' (some g)
theorem Grows.drawn {w wr : World} {g N N' M k : Nat} {A : Option Addr} {n c : Nat} (h : Grows w g N (.slice A n c) k wr) (hk : k ≤ M) (hN : N ≤ N') : Drawn w g N' M (.returned (.slice A n c)) wr := by
  obtain ⟨A', c', l, e, hl, ho, hc, hg⟩ := h
  cases e
  exact ⟨A, c, l, rfl, by omega, ho, hc.more hN, hg⟩

set_option maxRecDepth 100000 in
set_option maxHeartbeats 12800000 in
theorem spec_terms (g N : Nat) (lo hi : Int) (w : World) (h : Cur w g N) (hN : N ≤ 10000000000) (h1 : -100 ≤ lo) (h2 : hi ≤ 100) (h3 : lo ≤ hi) :
    Calls Try.prog 136 #[.pointer (some ⟨g, 0, none⟩), .int .i64 lo, .int .i64 hi] w (Drawn w g (N + 100) 11) := by
  have HN := Lib.hid (spec_pick g N 8 w h (by omega) (by omega))
  have hgl := h.lt
  have hw1 : IntKind.i64.wrap (hi - lo) = hi - lo := IntWalk.i64_in _ (by omega)
  have hw2 : IntKind.i64.wrap (hi - lo + 1) = hi - lo + 1 := IntWalk.i64_in _ (by omega)
  clear h
  go_enter Try.func136, Try.ntmps136
  go_wp2_with fail
  refine HN.out.mono ?_
  rintro e w1 ⟨r, rfl, ⟨r0, r1⟩, hc, hg⟩
  obtain ⟨p, rfl⟩ := Int.eq_ofNat_of_zero_le r0
  have p7 : p ≤ 7 := by omega
  have HG : Hid (Grows w g (N + 2) (.slice none 0 0) 0 w1) := Lib.hid ⟨none, 0, [], rfl, rfl, World.ownsRow_nil _ _ _ _, hc, hg⟩
  clear hc hg HN r0 r1
  go_wp2
  go_loopw [7, 8] (fun v k wr => ∃ d q : Nat, d + q = p ∧ k = .int .i64 q ∧ Grows w g (N + 2 + 2 * d) v d wr) (fun _ k _ => (intOf k).toNat)
  case atStart => exact ⟨0, p, by omega, rfl, HG.out⟩
  case round =>
    clear HG
    obtain ⟨d, q, hdq, rfl, A, c, l, rfl, hl, ho, hc, hg⟩ := hrel
    subst hl
    by_cases hq : 0 < q
    · have q0 : (0 : Int) < (q : Int) := by omega
      have q7 : (q : Int) ≤ 7 := by omega
      have HP := Lib.hid (spec_pick g (N + 2 + 2 * l.length) (hi - lo + 1) wr hc (by omega) (by omega))
      have Ho := Lib.hid ho
      have Hg := Lib.hid hg
      clear hc ho hg
      go_wp2_with fail
      refine HP.out.mono ?_
      rintro e w2 ⟨x, rfl, ⟨x0, x1⟩, hc2, hg2⟩
      have o2 := own_far Ho.out hg2 (fun k hk e => by have := (Ho.out.lt k hk).1; injection e with e; omega)
      have g2 := Hg.out.trans hg2
      have hwx : IntKind.i64.wrap (lo + x) = lo + x := IntWalk.i64_in _ (by omega)
      have own2 := o2.alloc (.cells #[.int .i64 (lo + x)] 3)
      have Hc2 := Lib.hid hc2
      have HG2 := Lib.hid g2
      have HO2 := Lib.hid o2
      have hz := g2.size
      clear hc2 hg2 HP Ho Hg g2 o2
      go_wp2_with (at_builtin; refine append1I _ rfl _ _ rfl w.heap.size (.slice A l.length c) l rfl own2 w2.heap.size (lo + x) rfl ?c1 ?c2 ?c3 ?_; (case c1 => simp [go_sem]); (case c2 => omega); (case c3 => simp; omega); intro A3 c3 w3 own3 hg3; (have hG := Grows.push (N := N + 2 + 2 * (l.length + 1)) HG2.out Hc2.out (by omega) hgl (lo + x) HO2.out own3 hg3))
      have HG := Lib.hid hG
      clear hG own3 hg3 own2 HO2 HG2 Hc2
      go_wp2
      go_roundw
      case rel => exact ⟨l.length + 1, q - 1, by omega, by go_num, HG.out⟩
      case measure => simp [intOf]; omega
    · have q0 : ¬ (0 : Int) < (q : Int) := by omega
      have HP := Lib.hid (spec_pick g (N + 2 + 2 * l.length) 14 wr hc (by omega) (by omega))
      have Ho := Lib.hid ho
      have Hg := Lib.hid hg
      have hl7 : l.length ≤ 7 := by omega
      clear hc ho hg hw1 hw2 hdq
      go_wp2_with fail
      refine HP.out.mono ?_
      rintro e w2 ⟨x, rfl, ⟨x0, x1⟩, hc2, hg2⟩
      have o2 := own_far Ho.out hg2 (fun k hk e => by have := (Ho.out.lt k hk).1; injection e with e; omega)
      have g2 := Hg.out.trans hg2
      have hz := g2.size
      clear hg2 HP Ho Hg
      by_cases hx0 : x = 0
      · subst hx0
        have hba := (Below.refl w2.heap.size w2).alloc (Nat.le_refl _) (.cells #[.int .i64 30, .int .i64 31, .int .i64 (-30), .int .i64 (-9223372036854775808)] 3)
        have HA := Lib.hid (spec_among g (N + 2 + 2 * l.length + 2) w2.heap.size 4 4 [30, 31, -30, -9223372036854775808] _ (hc2.kept hba) (by omega) rfl (by simp) (by have := hc2.lt; omega) (fun j hj => by
          match j, hj with
          | 0, _ => simp [go_sem]
          | 1, _ => simp [go_sem]
          | 2, _ => simp [go_sem]
          | 3, _ => simp [go_sem]) (by omega) (by omega))
        have o3 := own_kept o2 hba
        have g3 := grownC_below g2 hba
        have Ho3 := Lib.hid o3
        have Hg3 := Lib.hid g3
        clear o2 g2 hc2 hba o3 g3
        go_wp2_with fail
        refine HA.out.mono ?_
        rintro e w4 ⟨y, rfl, _, hc4, hg4⟩
        have o4 := own_far Ho3.out hg4 (fun k hk e => by have := (Ho3.out.lt k hk).1; injection e with e; omega)
        have g4 := Hg3.out.trans hg4
        have own2 := o4.alloc (.cells #[.int .i64 y] 3)
        have Hc4 := Lib.hid hc4
        have HG4 := Lib.hid g4
        have HO4 := Lib.hid o4
        have hz4 := g4.size
        clear hc4 hg4 HA Ho3 Hg3 g4 o4
        go_wp2_with (at_builtin; refine append1I _ rfl _ _ rfl w.heap.size (.slice A l.length c) l rfl own2 w4.heap.size y rfl ?c1 ?c2 ?c3 ?_; (case c1 => simp [go_sem]); (case c2 => omega); (case c3 => simp; omega); intro A3 c3 w3 own3 hg3; (have hG := Grows.push (N := N + 100) HG4.out Hc4.out (by omega) hgl y HO4.out own3 hg3))
        have HD := Lib.hid (hG.drawn (M := 11) (by omega) (Nat.le_refl _))
        clear hG own3 hg3 own2 HO4 HG4 Hc4
        go_wp2
        go_ret
        exact HD.out
      · by_cases hx1 : x = 1
        · subst hx1
          have HG : Hid (Grows w g (N + 20 + 2 * l.length) (.slice A l.length c) l.length w2) := Lib.hid ⟨A, c, l, rfl, rfl, o2, hc2.more (by omega), g2⟩
          clear o2 hc2 g2 hz hx0 x0 x1
          go_wp2
          go_loopw [7] (fun v wr => ∃ d : Nat, d ≤ 11 ∧ Grows w g (N + 20 + 2 * d) v d wr) (fun v _ => 12 - lenW v)
          case atStart => exact ⟨l.length, by omega, HG.out⟩
          case round =>
            clear HG hl7 q0
            obtain ⟨d, hd, A, c, l, rfl, hl, ho, hc, hg⟩ := hrel
            subst hl
            have HP := Lib.hid (spec_pick g (N + 20 + 2 * l.length) 2 wr hc (by omega) (by omega))
            have Ho := Lib.hid ho
            have Hg := Lib.hid hg
            clear hc ho hg
            go_wp2_with fail
            refine HP.out.mono ?_
            rintro e w4 ⟨y, rfl, ⟨y0, y1⟩, hc4, hg4⟩
            have o4 := own_far Ho.out hg4 (fun k hk e => by have := (Ho.out.lt k hk).1; injection e with e; omega)
            have g4 := Hg.out.trans hg4
            have hz4 := g4.size
            clear hg4 HP Ho Hg
            by_cases hlt : (l.length : Int) < 10 + y
            · have own2 := o4.alloc (.cells #[.int .i64 2] 3)
              have Hc4 := Lib.hid hc4
              have HG4 := Lib.hid g4
              have HO4 := Lib.hid o4
              clear hc4 g4 o4
              go_wp2_with (at_builtin; refine append1I _ rfl _ _ rfl w.heap.size (.slice A l.length c) l rfl own2 w4.heap.size 2 rfl ?c1 ?c2 ?c3 ?_; (case c1 => simp [go_sem]); (case c2 => omega); (case c3 => simp; omega); intro A3 c3 w3 own3 hg3; (have hG := Grows.push (N := N + 20 + 2 * (l.length + 1)) HG4.out Hc4.out (by omega) hgl 2 HO4.out own3 hg3))
              have HG := Lib.hid hG
              clear hG own3 hg3 own2 HO4 HG4 Hc4
              go_wp2
              go_roundw
              case rel => exact ⟨l.length + 1, by omega, HG.out⟩
              case measure => simp [lenW]; omega
            · have HD : Hid (Drawn w g (N + 100) 11 (.returned (.slice A l.length c)) w4) := Lib.hid ⟨A, c, l, rfl, hd, o4, hc4.more (by omega), g4⟩
              clear o4 hc4 g4
              go_wp2
              go_ret
              exact HD.out
        · by_cases hx2 : x = 2
          · subst hx2
            have HG : Hid (Grows w g (N + 50) (.slice A l.length c) l.length w2) := Lib.hid ⟨A, c, l, rfl, rfl, o2, hc2.more (by omega), g2⟩
            clear o2 hc2 g2 hz hx0 hx1 x0 x1
            go_wp2
            go_loopw [7] (fun v wr => ∃ d : Nat, d ≤ 11 ∧ Grows w g (N + 50) v d wr) (fun v _ => 12 - lenW v)
            case atStart => exact ⟨l.length, by omega, HG.out⟩
            case round =>
              clear HG hl7 q0
              obtain ⟨d, hd, A, c, l, rfl, hl, ho, hc, hg⟩ := hrel
              subst hl
              have hz4 := hg.size
              by_cases hlt : (l.length : Int) < 10
              · have own2 := ho.alloc (.cells #[.int .i64 30] 3)
                have Hc4 := Lib.hid hc
                have HG4 := Lib.hid hg
                have HO4 := Lib.hid ho
                clear hc hg ho
                go_wp2_with (at_builtin; refine append1I _ rfl _ _ rfl w.heap.size (.slice A l.length c) l rfl own2 wr.heap.size 30 rfl ?c1 ?c2 ?c3 ?_; (case c1 => simp [go_sem]); (case c2 => omega); (case c3 => simp; omega); intro A3 c3 w3 own3 hg3; (have hG := Grows.push (N := N + 50) HG4.out Hc4.out (by omega) hgl 30 HO4.out own3 hg3))
                have HG := Lib.hid hG
                clear hG own3 hg3 own2 HO4 HG4 Hc4
                go_wp2
                go_roundw
                case rel => exact ⟨l.length + 1, by omega, HG.out⟩
                case measure => simp [lenW]; omega
              · have HD : Hid (Drawn w g (N + 100) 11 (.returned (.slice A l.length c)) wr) := Lib.hid ⟨A, c, l, rfl, hd, ho, hc.more (by omega), hg⟩
                clear ho hc hg
                go_wp2
                go_ret
                exact HD.out
          · have HD : Hid (Drawn w g (N + 100) 11 (.returned (.slice A l.length c)) w2) := Lib.hid ⟨A, c, l, rfl, by omega, o2, hc2.more (by omega), g2⟩
            have n0 : (x == 0) = false := by simpa using hx0
            have n1 : (x == 1) = false := by simpa using hx1
            have n2 : (x == 2) = false := by simpa using hx2
            clear o2 hc2 g2 hx0 hx1 hx2 x1
            go_wp2
            go_ret
            exact HD.out
end Go.Proofs.Ytnoddecligmjbaa

/- CurQ: The cursor's quiddities. -/
namespace Go.Proofs.Ytnoddecligmjbaa
open Go.RowKit

/-- a quiddity of n numbers drawn -/
def DrawnQ (w : World) (g N n : Nat) (e : Ending) (w' : World) : Prop :=
  ∃ (A : Option Addr) (c : Nat) (q : List Int), e = .returned (.slice A n c) ∧ q.length = n ∧ isQ q = true ∧ n ≤ c ∧ w'.ownsRow w.heap.size 3 1 (.slice A n c) n (ics q) ∧ Cur w' g N ∧ w.grownBy w' (some g)
/-- at the head of the loop -/
def QGrows (w : World) (g N m : Nat) (v : Value) (wr : World) : Prop :=
  ∃ (A : Option Addr) (c : Nat) (q : List Int), v = .slice A m c ∧ q.length = m ∧ isQ q = true ∧ m ≤ c ∧ wr.ownsRow w.heap.size 3 1 (.slice A m c) m (ics q) ∧ Cur wr g N ∧ w.grownBy wr (some g)

set_option maxRecDepth 100000 in
set_option maxHeartbeats 12800000 in
theorem spec_sureQuiddity (g N n : Nat) (w : World) (h : Cur w g N) (hN : N ≤ 10000000000) (n3 : 3 ≤ n) (n12 : n ≤ 12) :
    Calls Try.prog 163 #[.pointer (some ⟨g, 0, none⟩), .int .i64 n] w (DrawnQ w g (N + 30) n) := by
  have hgl := h.lt
  have hba : Below w.heap.size w (w.alloc (.cells #[.int .i64 1, .int .i64 1, .int .i64 1] 3)) := below_box (Below.refl _ _) (Nat.le_refl _) _
  have HG : Hid (QGrows w g (N + 2 * 3) 3 (.slice (some ⟨w.heap.size, 0, none⟩) 3 3) (w.alloc (.cells #[.int .i64 1, .int .i64 1, .int .i64 1] 3))) :=
    Lib.hid ⟨_, 3, [1, 1, 1], rfl, rfl, tri_isQ, Nat.le_refl _, ⟨by simp [ics], .inr ⟨w.heap.size, 3, #[.int .i64 1, .int .i64 1, .int .i64 1], rfl, Nat.le_refl _, heap_alloc_new w _, by omega, by decide, by simp, by simp [ics]⟩⟩, (h.kept hba).more (by omega), grownC_below (World.grownBy.refl w _) hba⟩
  have nn : (n : Int) ≤ 12 := by omega
  clear h hba
  go_enter Try.func163, Try.ntmps163
  go_wp2
  go_loopw [5, 6, 7] (fun v _ _ wr => ∃ m : Nat, 3 ≤ m ∧ m ≤ n ∧ QGrows w g (N + 2 * m) m v wr) (fun v _ _ _ => n - lenW v)
  case atStart => exact ⟨3, by omega, n3, HG.out⟩
  case round =>
    clear HG
    obtain ⟨m, m3, mn, A, c, q, rfl, hqm, hq, mc, ho, hc, hg⟩ := hrel
    by_cases hlt : m < n
    · have i0 : (m : Int) < (n : Int) := by omega
      have HP := Lib.hid (spec_pick g (N + 2 * m) m wr hc (by omega) (by omega))
      have Ho := Lib.hid ho
      have Hg := Lib.hid hg
      have Hq := Lib.hid hq
      have Hqm := Lib.hid hqm
      clear hc ho hg hq hqm
      go_wp2_with fail
      refine HP.out.mono ?_
      rintro e wp ⟨x, rfl, ⟨x0, x1⟩, hc2, hg2⟩
      obtain ⟨t, rfl⟩ := Int.eq_ofNat_of_zero_le x0
      have ht : t < m := by omega
      have o2 := own_far Ho.out hg2 (fun k hk e => by have := (Ho.out.lt k hk).1; injection e with e; omega)
      have g2 := Hg.out.trans hg2
      obtain ⟨gq, cap0, hv, hgq, hgql⟩ := o2.form (by omega)
      cases hv
      have Hs := Lib.hid (SlI.of_own o2)
      have Hc2 := Lib.hid hc2
      have HG2 := Lib.hid g2
      have hz := g2.size
      clear hc2 hg2 HP Ho Hg g2 o2 x1
      have Hget : Hid (∀ i, i < q.length → 1 ≤ q.getD i 0 ∧ q.getD i 0 ≤ 12) := Lib.hid fun i hi => by have h1 := isQ_get Hq.out i hi; have h2 := isQ_len Hq.out; omega
      have t1 : t + 1 ≤ m := by omega
      have Hlt : Hid ((q.take (t + 1)).length = t + 1) := Lib.hid (by rw [List.length_take, Hqm.out]; omega)
      have Hld : Hid ((q.drop (t + 1)).length = m - (t + 1)) := Lib.hid (by rw [List.length_drop, Hqm.out])
      have z0 : (0 : Int) ≤ (t : Int) + 1 := by omega
      have z1 : (t : Int) + 1 ≤ (c : Int) := by omega
      have z2 : (m : Int) ≤ (c : Int) := by omega
      have hpn : ((t : Int) + 1).toNat = t + 1 := by omega
      have hpn1 : (1 + (t : Int)).toNat = t + 1 := by omega
      have hcm : (1 : Int) + (t : Int) = (t : Int) + 1 := by omega
      have HE : Hid (∀ w6 A6 c6, w6.ownsRow wp.heap.size 3 1 (.slice A6 (m + 1) c6) (m + 1) (ics (glueL q t)) → Below wp.heap.size wp w6 → QGrows w g (N + 2 * (m + 1)) (m + 1) (.slice A6 (m + 1) c6) w6) := Lib.hid fun w6 A6 c6 o6 b6 =>
        ⟨A6, c6, glueL q t, rfl, by rw [glueL_length q t (by rw [Hqm.out]; exact t1), Hqm.out], glue_isQ Hq.out (by rw [Hqm.out]; omega) (by rw [Hqm.out]; exact ht), own_capI o6, o6.mono hz, (Hc2.out.kept b6).more (by omega), grownC_below HG2.out b6⟩
      go_wp2_with fail
      refine (spec_l1Own_at (some ⟨gq, 0, none⟩) (t + 1) c wp.heap.size (q.take (t + 1)) _ Hlt.out (Hs.out.take (t + 1)) (Nat.le_refl _) (by omega)).mono ?_
      rintro e w2 ⟨A2, c2, rfl, o2, b2⟩
      have own2 := o2.alloc (.cells #[.int .i64 1] 3)
      have hsz2 := b2.size
      have Hb2 := Lib.hid (b2.alloc hsz2 (.cells #[.int .i64 1] 3))
      have Hlw : Hid (∀ k, (Value.slice A2 (t + 1) c2).ownBlock = some k → wp.heap.size ≤ k) := Lib.hid fun k hk => (o2.lt k hk).1
      have t6 : t + 1 ≤ 1000000 := by omega
      have Hl1 : Hid ((q.take (t + 1) ++ [(1 : Int)]).length = t + 1 + 1) := Lib.hid (by rw [List.length_append, Hlt.out]; rfl)
      have HN1 : Hid (m + 1 = t + 1 + 1 + (m - (t + 1))) := Lib.hid (by omega)
      have HNl : Hid (gluP q (t + 1) = q.take (t + 1) ++ [1] ++ q.drop (t + 1)) := Lib.hid rfl
      have Hgl : Hid ((gluP q (t + 1)).length = m + 1) := Lib.hid (by rw [gluP_length q _ (by rw [Hqm.out]; exact t1), Hqm.out])
      have Hbd : Hid (∀ j, j < (gluP q (t + 1)).length → 1 ≤ (gluP q (t + 1)).getD j 0 ∧ (gluP q (t + 1)).getD j 0 ≤ 12) := Lib.hid fun j hj => gluP_bd Hget.out j hj
      obtain ⟨b, hbdef⟩ : ∃ b, b = (t + 2) % (m + 1) := ⟨_, rfl⟩
      have hbn : b < m + 1 := by rw [hbdef]; exact Nat.mod_lt _ (by omega)
      have hrem : ((t : Int) + 1 + 1) % ((m : Int) + 1) = (b : Int) := by
        rw [hbdef, show (t : Int) + 1 + 1 = ((t + 2 : Nat) : Int) by omega, show (m : Int) + 1 = ((m + 1 : Nat) : Int) by omega]
        rfl
      have HGL : Hid (glueL q t = gInc (gInc (gluP q (t + 1)) t) b) := Lib.hid (by unfold glueL; rw [Hqm.out, hbdef])
      have t0 : (0 : Int) ≤ (t : Int) := by omega
      have t2 : (t : Int) < (m : Int) + 1 := by omega
      have bb0 : (0 : Int) ≤ (b : Int) := by omega
      have bb1 : (b : Int) < (m : Int) + 1 := by omega
      have t7 : t + 1 + 1 ≤ 1000000 := by omega
      have t8 : m - (t + 1) ≤ 1000000 := by omega
      have t9 : t < m + 1 := by omega
      have hm1 : (m : Int) + 1 ≠ 0 := by omega
      have HsB : Hid (∀ w3, Below wp.heap.size wp w3 → SlI w3 wp.heap.size (some ⟨gq, 0, none⟩) q) := Lib.hid fun w3 h3 => Hs.out.below h3
      clear o2 b2 z0 z1 hbdef hpn1 hcm
      rcases Nat.lt_or_ge (t + 1) c with kc | kc
      · have kc2 : ¬ c = t + 1 := by omega
        go_wp2_with (first
            | (at_builtin; refine append1In _ rfl (.tmp 21) (.tmp 22) rfl wp.heap.size (.slice A2 (t + 1) c2) (t + 1) (q.take (t + 1)) Hlt.out rfl own2 w2.heap.size 1 rfl ?c1 t6 Hb2.out.size ?_; (case c1 => simp [go_sem])
               intro A3 c3 w3 own3 hg3
               have Own3 := Lib.hid own3
               have Hb3 := Lib.hid (below_grown Hb2.out hg3 (Nat.le_refl _) (fun k hk => Hlw.out k hk))
               clear own2 own3 hg3)
            | (at_builtin; refine wpList_appendNI _ rfl (.tmp 24) (.tmp 27) rfl wp.heap.size (.slice A3 (t + 1 + 1) c3) (t + 1 + 1) (q.take (t + 1) ++ [1]) Hl1.out rfl Own3.out _ (m - (t + 1)) _ (q.drop (t + 1)) wp.heap.size (m + 1) HN1.out rfl Hld.out ?_ t7 t8 Hb3.out.size ?_
               · first
                 | exact (HsB.out _ Hb3.out).cutAt (t + 1)
                 | (have hh := (HsB.out _ Hb3.out).cutAt (t + 1); simpa using hh)
                 | exact fun h0 => absurd h0 (by rw [Hld.out]; omega)
               intro A4 c4 w4 own4 hg4
               have hb4 := below_grown Hb3.out hg4 (Nat.le_refl _) (fun k hk => (Own3.out.lt k hk).1)
               obtain ⟨gl, rfl, ⟨ca, fa⟩, ⟨cb, fb⟩, o6, g6, hgl6⟩ := glue_cells (L := gluP q (t + 1)) own4 Hgl.out t b t9 hbn
               have hb6 := below_grown hb4 g6 (Nat.le_refl _) (fun k hk => by injection hk with hk; omega)
               obtain ⟨x1, x2⟩ := Hbd.out t (by rw [Hgl.out]; exact t9)
               obtain ⟨y1, y2⟩ := gInc_bd Hbd.out t b (by rw [Hgl.out]; exact hbn)
               have hF := HE.out _ (some ⟨gl, 0, none⟩) c4 (by rw [HGL.out]; exact o6) hb6
               have HF := Lib.hid hF
               clear hF o6 g6 hb6 hb4 own4 hg4 Own3 hgl6
               generalize (gInc (gluP q (t + 1)) t).getD b 0 = y at *
               generalize (gluP q (t + 1)).getD t 0 = x at *))
        go_roundw
        case rel => exact ⟨m + 1, by omega, by omega, HF.out⟩
        case measure => simp [lenW]; omega
      · have Hnl : Hid (∀ w3, SlI w3 wp.heap.size (some ⟨gq, 0, none⟩) (q.drop (t + 1))) := Lib.hid fun w3 h0 => absurd h0 (by rw [Hld.out]; omega)
        have HN0 : Hid (m + 1 = t + 1 + 1 + 0) := Lib.hid (by omega)
        have Hld0 : Hid ((q.drop (t + 1)).length = 0) := Lib.hid (by rw [Hld.out]; omega)
        have t80 : 0 ≤ 1000000 := by omega
        obtain rfl : c = t + 1 := by omega
        go_wp2_with (first
            | (at_builtin; refine append1In _ rfl (.tmp 21) (.tmp 22) rfl wp.heap.size (.slice A2 (t + 1) c2) (t + 1) (q.take (t + 1)) Hlt.out rfl own2 w2.heap.size 1 rfl ?c1 t6 Hb2.out.size ?_; (case c1 => simp [go_sem])
               intro A3 c3 w3 own3 hg3
               have Own3 := Lib.hid own3
               have Hb3 := Lib.hid (below_grown Hb2.out hg3 (Nat.le_refl _) (fun k hk => Hlw.out k hk))
               clear own2 own3 hg3)
            | (at_builtin; refine wpList_appendNI _ rfl (.tmp 24) (.tmp 27) rfl wp.heap.size (.slice A3 (t + 1 + 1) c3) (t + 1 + 1) (q.take (t + 1) ++ [1]) Hl1.out rfl Own3.out _ 0 _ (q.drop (t + 1)) wp.heap.size (m + 1) HN0.out rfl Hld0.out ?_ t7 t80 Hb3.out.size ?_
               · exact Hnl.out _
               intro A4 c4 w4 own4 hg4
               have hb4 := below_grown Hb3.out hg4 (Nat.le_refl _) (fun k hk => (Own3.out.lt k hk).1)
               obtain ⟨gl, rfl, ⟨ca, fa⟩, ⟨cb, fb⟩, o6, g6, hgl6⟩ := glue_cells (L := gluP q (t + 1)) own4 Hgl.out t b t9 hbn
               have hb6 := below_grown hb4 g6 (Nat.le_refl _) (fun k hk => by injection hk with hk; omega)
               obtain ⟨x1, x2⟩ := Hbd.out t (by rw [Hgl.out]; exact t9)
               obtain ⟨y1, y2⟩ := gInc_bd Hbd.out t b (by rw [Hgl.out]; exact hbn)
               have hF := HE.out _ (some ⟨gl, 0, none⟩) c4 (by rw [HGL.out]; exact o6) hb6
               have HF := Lib.hid hF
               clear hF o6 g6 hb6 hb4 own4 hg4 Own3 hgl6
               generalize (gInc (gluP q (t + 1)) t).getD b 0 = y at *
               generalize (gluP q (t + 1)).getD t 0 = x at *))
        go_roundw
        case rel => exact ⟨m + 1, by omega, by omega, HF.out⟩
        case measure => simp [lenW]; omega
    · obtain rfl : m = n := by omega
      have HD : Hid (DrawnQ w g (N + 30) m (.returned (.slice A m c)) wr) := Lib.hid ⟨A, c, q, rfl, hqm, hq, mc, ho, hc.more (by omega), hg⟩
      clear ho hc hg hq hqm
      go_wp2
      go_ret
      exact HD.out
end Go.Proofs.Ytnoddecligmjbaa

/- CurR: The cursor's quiddities, at times something else; the draws of chapter 3. -/
namespace Go.Proofs.Ytnoddecligmjbaa
open Go.RowKit

/-- a list drawn that is read alone -/
def DrawnS (w : World) (g N M : Nat) (e : Ending) (w' : World) : Prop :=
  ∃ (A : Option Addr) (c : Nat) (l : List Int), e = .returned (.slice A l.length c) ∧ l.length ≤ M ∧ l.length ≤ c ∧ SlI w' w'.heap.size A l ∧ Cur w' g N ∧ w.grownBy w' (some g)
/-- a list told by a draw: new memory -/
def GivS (w : World) (M : Nat) (e : Ending) (w' : World) : Prop :=
  ∃ (A : Option Addr) (c : Nat) (l : List Int), e = .returned (.slice A l.length c) ∧ l.length ≤ M ∧ l.length ≤ c ∧ SlI w' w'.heap.size A l ∧ Below w.heap.size w w'
theorem Drawn.s {w : World} {g N M : Nat} {e : Ending} {w' : World} (h : Drawn w g N M e w') : DrawnS w g N M e w' := by
  obtain ⟨A, c, l, h1, h2, h3, h4, h5⟩ := h
  exact ⟨A, c, l, h1, h2, own_capI h3, SlI.of_own h3, h4, h5⟩

set_option maxRecDepth 100000 in
set_option maxHeartbeats 12800000 in
theorem spec_quiddity (g N k : Nat) (w : World) (h : Cur w g N) (hN : N ≤ 1000000000) (k3 : 3 ≤ k) (k12 : k ≤ 12) :
    Calls Try.prog 130 #[.pointer (some ⟨g, 0, none⟩), .int .i64 k] w (DrawnS w g (N + 100) 12) := by
  have HP := Lib.hid (spec_pick g N ((k : Int) - 2) w h (by omega) (by omega))
  have hgl := h.lt
  have hw1 : IntKind.i64.wrap ((k : Int) - 2) = (k : Int) - 2 := IntWalk.i64_in _ (by omega)
  clear h
  go_enter Try.func130, Try.ntmps130
  go_wp2_with fail
  refine HP.out.mono ?_
  rintro e w1 ⟨x, rfl, ⟨x0, x1⟩, hc, hg⟩
  obtain ⟨d, rfl⟩ := Int.eq_ofNat_of_zero_le x0
  have hw2 : IntKind.i64.wrap (3 + (d : Int)) = ((d + 3 : Nat) : Int) := by rw [show 3 + (d : Int) = ((d + 3 : Nat) : Int) by omega]; exact IntWalk.i64_in _ (by omega)
  have hc3 : (3 : Int) + (d : Int) = ((d + 3 : Nat) : Int) := by omega
  have HQ := Lib.hid (spec_sureQuiddity g (N + 2) (d + 3) w1 hc (by omega) (by omega) (by omega))
  have Hg := Lib.hid hg
  obtain ⟨n, hn⟩ : ∃ n, n = d + 3 := ⟨_, rfl⟩
  rw [← hn] at HQ hw2 hc3
  have n12 : n ≤ 12 := by omega
  have n3 : 3 ≤ n := by omega
  clear HP hc hg x1 hn
  go_wp2_with fail
  refine HQ.out.mono ?_
  rintro e w2 ⟨A, c, q, rfl, hqn, hq, hnc, ho, hc2, hg2⟩
  have g2 := Hg.out.trans hg2
  obtain ⟨gq, cap0, hv, hgq, hgql⟩ := ho.form (by omega)
  cases hv
  have HP := Lib.hid (spec_pick g (N + 2 + 30) 14 w2 hc2 (by omega) (by omega))
  have Ho := Lib.hid (ho.mono (base' := w.heap.size) (Hg.out.size))
  have Hg2 := Lib.hid g2
  have hgne : gq ≠ g := by have := Hg.out.size; omega
  have Hqn := Lib.hid hqn
  clear HQ Hg ho hc2 hg2 g2 hc3 hw1 hw2 hq hqn
  go_wp2_with fail
  refine HP.out.mono ?_
  rintro e w3 ⟨x, rfl, ⟨x0, x1⟩, hc3, hg3⟩
  have o3 := own_far Ho.out hg3 (fun k hk e => by have := (Ho.out.lt k hk).1; injection e with e; omega)
  have g3 := Hg2.out.trans hg3
  have hz3 := g3.size
  clear HP Ho Hg2 hg3
  have nn : (n : Int) ≤ 12 := by omega
  have nn3 : (3 : Int) ≤ (n : Int) := by omega
  have ncc : (n : Int) ≤ (c : Int) := by omega
  by_cases hx0 : x = 0
  · subst hx0
    have HP := Lib.hid (spec_pick g (N + 2 + 30 + 2) n w3 hc3 (by omega) (by omega))
    have Ho := Lib.hid o3
    have Hg := Lib.hid g3
    clear hc3 o3 g3 x0 x1
    go_wp2_with fail
    refine HP.out.mono ?_
    rintro e w4 ⟨y, rfl, ⟨y0, y1⟩, hc4, hg4⟩
    obtain ⟨t, rfl⟩ := Int.eq_ofNat_of_zero_le y0
    have htn : t < n := by omega
    have hti : (t : Int) < (n : Int) := by omega
    have o4 := own_far Ho.out hg4 (fun k hk e => by have := (Ho.out.lt k hk).1; injection e with e; omega)
    have g4 := Hg.out.trans hg4
    have hba := (Below.refl w4.heap.size w4).alloc (Nat.le_refl _) (.cells #[.int .i64 (-1), .int .i64 0, .int .i64 1, .int .i64 2, .int .i64 13, .int .i64 4611686018427387904] 3)
    have HA := Lib.hid (spec_among g (N + 2 + 30 + 2 + 2) w4.heap.size 6 6 [-1, 0, 1, 2, 13, 4611686018427387904] _ (hc4.kept hba) (by omega) rfl (by simp) (by have := hc4.lt; omega) (fun j hj => by
      match j, hj with
      | 0, _ => simp [go_sem]
      | 1, _ => simp [go_sem]
      | 2, _ => simp [go_sem]
      | 3, _ => simp [go_sem]
      | 4, _ => simp [go_sem]
      | 5, _ => simp [go_sem]) (by omega) (by omega))
    have o5 := own_kept o4 hba
    have g5 := grownC_below g4 hba
    have Ho5 := Lib.hid o5
    have Hg5 := Lib.hid g5
    clear HP Ho Hg hc4 hg4 o4 g4 hba o5 g5 y1
    go_wp2_with fail
    refine HA.out.mono ?_
    rintro e w6 ⟨z, rfl, _, hc6, hg6⟩
    have o6 := own_far Ho5.out hg6 (fun k hk e => by have := (Ho5.out.lt k hk).1; injection e with e; omega)
    have g6 := Hg5.out.trans hg6
    have cc := o6.cellAt t (by omega)
    rw [ics_get _ _ (by rw [Hqn.out]; exact htn)] at cc
    have ff := o6.frozenAt t
    obtain ⟨o7, h7⟩ := o6.stored t (.int .i64 z)
    rw [ics_set] at o7
    have HD : Hid (DrawnS w g (N + 100) 12 (.returned (.slice (some ⟨gq, 0, none⟩) n c)) (w6.setCell ⟨gq, t, none⟩ (.int .i64 z))) :=
      Lib.hid ⟨some ⟨gq, 0, none⟩, c, q.set t z, by simp [Hqn.out], by simp [Hqn.out]; omega, by simp [Hqn.out]; omega, SlI.of_own o7, (hc6.far h7 (fun k hk => by have := (o6.lt k hk).1; omega)).more (by omega), grownC_new g6 h7 (fun k hk => (o6.lt k hk).1)⟩
    clear HA Ho5 Hg5 hc6 hg6 o6 g6 o7 h7
    generalize q.getD t 0 = y at *
    go_wp2
    go_ret
    exact HD.out
  · by_cases hx1 : x = 1
    · subst hx1
      have HD : Hid (DrawnS w g (N + 100) 12 (.returned (.slice (some ⟨gq, 1, none⟩) (n - 1) (c - 1))) w3) :=
        Lib.hid ⟨some ⟨gq, 1, none⟩, c - 1, q.drop 1, by simp [Hqn.out], by simp [Hqn.out]; omega, by simp [Hqn.out]; omega, by simpa using (SlI.of_own o3).cutAt 1, hc3.more (by omega), g3⟩
      have c1 : ¬ c = 1 := by omega
      have c2 : 1 ≤ n := by omega
      have c3' : n ≤ c := hnc
      clear hc3 o3 g3 hx0 x0 x1
      go_wp2
      go_ret
      exact HD.out
    · by_cases hx2 : x = 2
      · subst hx2
        have cc0 := o3.cellAt 0 (by omega)
        have cc1 := o3.cellAt 1 (by omega)
        rw [ics_get _ _ (by rw [Hqn.out]; omega)] at cc0 cc1
        have ff0 := o3.frozenAt 0
        have ff1 := o3.frozenAt 1
        obtain ⟨o4, h4⟩ := o3.stored 0 (.int .i64 (q.getD 1 0))
        rw [ics_set] at o4
        have L3 := o3.lt
        obtain ⟨o5, h5⟩ := o4.stored 1 (.int .i64 (q.getD 0 0))
        rw [ics_set] at o5
        have h45 := h4.trans h5
        have HD : Hid (DrawnS w g (N + 100) 12 (.returned (.slice (some ⟨gq, 0, none⟩) n c)) ((w3.setCell ⟨gq, 0, none⟩ (.int .i64 (q.getD 1 0))).setCell ⟨gq, 1, none⟩ (.int .i64 (q.getD 0 0)))) :=
          Lib.hid ⟨some ⟨gq, 0, none⟩, c, (q.set 0 (q.getD 1 0)).set 1 (q.getD 0 0), by simp [Hqn.out], by simp [Hqn.out]; omega, by simp [Hqn.out]; omega, SlI.of_own o5, (hc3.far h45 (fun k hk => by have := (L3 k hk).1; omega)).more (by omega), grownC_new g3 h45 (fun k hk => (L3 k hk).1)⟩
        clear hc3 o3 g3 o4 h4 o5 h5 h45 hx0 hx1 x0 x1
        generalize q.getD 1 0 = y1 at *
        generalize q.getD 0 0 = y0 at *
        go_wp2
        go_ret
        exact HD.out
      · have HD : Hid (DrawnS w g (N + 100) 12 (.returned (.slice (some ⟨gq, 0, none⟩) n c)) w3) :=
          Lib.hid ⟨some ⟨gq, 0, none⟩, c, q, by rw [Hqn.out], by rw [Hqn.out]; omega, by rw [Hqn.out]; exact hnc, SlI.of_own o3, hc3.more (by omega), g3⟩
        have n0 : (x == 0) = false := by simpa using hx0
        have n1 : (x == 1) = false := by simpa using hx1
        have n2 : (x == 2) = false := by simpa using hx2
        clear o3 hc3 g3 hx0 hx1 hx2 x1
        go_wp2
        go_ret
        exact HD.out
end Go.Proofs.Ytnoddecligmjbaa

/- Clo: A quiddity closes: the entries of n corners further are turned round. Plain mathematics. -/
namespace Go.Proofs.Ytnoddecligmjbaa
open Go.RowKit

/-- one step along the numbers: the entry before, the entry -/
def stp (a : Int) (p : Int × Int) : Int × Int := (p.2, a * p.2 - p.1)
def runS : List Int → Int × Int → Int × Int
  | [], p => p
  | a :: r, p => runS r (stp a p)
theorem runS_app : ∀ (l r : List Int) (p : Int × Int), runS (l ++ r) p = runS r (runS l p)
  | [], _, _ => rfl
  | _ :: l, r, p => runS_app l r _
/-- all is turned round -/
def NegL (l : List Int) : Prop := ∀ p, runS l p = (-p.1, -p.2)
theorem neg_rot1 {a : Int} {t : List Int} (h : NegL (a :: t)) : NegL (t ++ [a]) := fun p => by
  obtain ⟨b, e⟩ := p
  have h1 := h (a * b - e, b)
  have e1 : stp a (a * b - e, b) = (b, e) := by unfold stp; dsimp only; congr 1; omega
  have h2 : runS t (b, e) = (-(a * b - e), -b) := by rw [← e1]; exact h1
  rw [runS_app, h2]
  show stp a _ = _
  unfold stp
  dsimp only
  rw [Int.mul_neg]
  congr 1
  omega
theorem neg_rot : ∀ (l r : List Int), NegL (l ++ r) → NegL (r ++ l)
  | [], r, h => by simpa using h
  | a :: l, r, h => by
    have := neg_rot l (r ++ [a]) (by rw [← List.append_assoc]; exact neg_rot1 h)
    rw [List.append_assoc] at this
    exact this
theorem ear_run (x y : Int) (p : Int × Int) : runS [x, 1, y] p = runS [x - 1, y - 1] p := by
  obtain ⟨b, e⟩ := p
  show stp y (stp 1 (stp x (b, e))) = stp (y - 1) (stp (x - 1) (b, e))
  unfold stp
  dsimp only
  refine Prod.ext ?_ ?_ <;> dsimp only <;> grind
theorem neg_ear {x y : Int} {r : List Int} (h : NegL ((x - 1) :: (y - 1) :: r)) : NegL (x :: 1 :: y :: r) := fun p => by
  have := h p
  rw [show (x - 1) :: (y - 1) :: r = [x - 1, y - 1] ++ r from rfl, runS_app, ← ear_run, ← runS_app] at this
  exact this
theorem decr_mid (P : List Int) (a : Int) (S : List Int) {k : Nat} (hk : k = P.length) : decr (P ++ a :: S) k = P ++ (a - 1) :: S := by
  subst hk
  unfold decr
  simp [List.set_append, List.getD_eq_getElem?_getD]
theorem erase_mid (P : List Int) (a : Int) (S : List Int) {k : Nat} (hk : k = P.length) : (P ++ a :: S).eraseIdx k = P ++ S := by
  subst hk
  simp [List.eraseIdx_append]
theorem cut_as {l : List Int} {k a b : Nat} (h1 : (k + l.length - 1) % l.length = a) (h2 : (k + 1) % l.length = b) : cutL l k = (decr (decr l a) b).eraseIdx k := by
  unfold cutL dec2
  rw [h1, h2]
theorem neg_cut {l : List Int} {k : Nat} (hl : 4 ≤ l.length) (hk : k < l.length) (h1 : l.getD k 0 = 1) (h : NegL (cutL l k)) : NegL l := by
  have hs : l = l.take k ++ 1 :: l.drop (k + 1) := by
    have e : l[k] = 1 := by simpa [List.getD_eq_getElem?_getD, hk] using h1
    conv => lhs; rw [← List.take_append_drop k l, List.drop_eq_getElem_cons hk, e]
  have hA : (l.take k).length = k := by rw [List.length_take]; omega
  have hB : (l.drop (k + 1)).length = l.length - (k + 1) := List.length_drop
  generalize l.take k = A at *
  generalize l.drop (k + 1) = B at *
  by_cases k0 : k = 0
  · obtain rfl : A = [] := List.eq_nil_of_length_eq_zero (by omega)
    obtain ⟨y, B', rfl⟩ : ∃ y B', B = y :: B' := by cases B with | nil => simp at hB; omega | cons y B' => exact ⟨y, B', rfl⟩
    have hB' : B' ≠ [] := by rintro rfl; simp at hB; omega
    obtain ⟨R, x, rfl⟩ : ∃ R x, B' = R ++ [x] := ⟨B'.dropLast, B'.getLast hB', (List.dropLast_concat_getLast hB').symm⟩
    subst hs
    subst k0
    have e1 : cutL ([] ++ 1 :: y :: (R ++ [x])) 0 = (y - 1) :: R ++ [x - 1] := by
      rw [cut_as (a := R.length + 2) (b := 1) (by simp) (by simp)]
      rw [show ([] : List Int) ++ 1 :: y :: (R ++ [x]) = (1 :: y :: R) ++ x :: [] by simp, decr_mid (1 :: y :: R) x [] (by simp), show (1 :: y :: R) ++ [x - 1] = [1] ++ y :: (R ++ [x - 1]) by simp, decr_mid (k := 1) [1] y _ rfl]
      rfl
    rw [e1] at h
    have h2 := neg_ear (neg_rot _ _ h)
    exact neg_rot [x] (1 :: y :: R) h2
  · obtain ⟨P, x, rfl⟩ : ∃ P x, A = P ++ [x] := by
      have hne : A ≠ [] := by rintro rfl; simp at hA; omega
      exact ⟨A.dropLast, A.getLast hne, (List.dropLast_concat_getLast hne).symm⟩
    have hkP : k = P.length + 1 := by simp at hA; omega
    cases B with
    | nil =>
      simp at hB
      have hm : k + 1 = l.length := by omega
      obtain ⟨y, R, rfl⟩ : ∃ y R, P = y :: R := by cases P with | nil => simp at hkP; omega | cons y R => exact ⟨y, R, rfl⟩
      subst hs
      have hll : ((y :: R ++ [x]) ++ [(1 : Int)]).length = k + 1 := by simp at hkP ⊢; omega
      have e1 : cutL ((y :: R ++ [x]) ++ [1]) k = (y - 1) :: R ++ [x - 1] := by
        rw [cut_as (a := k - 1) (b := 0) (by rw [hll]; rw [show k + (k + 1) - 1 = (k - 1) + (k + 1) by omega, Nat.add_mod_right]; exact Nat.mod_eq_of_lt (by omega)) (by rw [hll, Nat.mod_self])]
        rw [show (y :: R ++ [x]) ++ [(1 : Int)] = (y :: R) ++ x :: [1] by simp, decr_mid (y :: R) x [1] (by simp at hkP ⊢; omega), show (y :: R) ++ (x - 1) :: [1] = [] ++ y :: (R ++ (x - 1) :: [1]) by simp, decr_mid (k := 0) [] y _ rfl,
          show [] ++ (y - 1) :: (R ++ (x - 1) :: [1]) = ((y - 1) :: R ++ [x - 1]) ++ 1 :: [] by simp, erase_mid _ _ _ (by simp at hkP ⊢; omega)]
        simp
      rw [e1] at h
      have h2 := neg_ear (neg_rot _ _ h)
      have h3 := neg_rot [x, 1] (y :: R) h2
      simpa using h3
    | cons y R =>
      have hm : k + 1 < l.length := by simp at hB; omega
      subst hs
      have hll : ((P ++ [x]) ++ 1 :: y :: R).length = k + 2 + R.length := by simp; omega
      have e1 : cutL ((P ++ [x]) ++ 1 :: y :: R) k = P ++ (x - 1) :: (y - 1) :: R := by
        rw [cut_as (a := k - 1) (b := k + 1) (by rw [hll]; rw [show k + (k + 2 + R.length) - 1 = (k - 1) + (k + 2 + R.length) by omega, Nat.add_mod_right]; exact Nat.mod_eq_of_lt (by omega)) (by rw [hll]; exact Nat.mod_eq_of_lt (by omega))]
        rw [show (P ++ [x]) ++ 1 :: y :: R = P ++ x :: (1 :: y :: R) by simp, decr_mid P x _ (by omega), show P ++ (x - 1) :: 1 :: y :: R = (P ++ [x - 1, 1]) ++ y :: R by simp, decr_mid _ y _ (by simp; omega),
          show (P ++ [x - 1, 1]) ++ (y - 1) :: R = (P ++ [x - 1]) ++ 1 :: (y - 1) :: R by simp, erase_mid _ _ _ (by simp; omega)]
        simp
      rw [e1] at h
      have h2 := neg_rot P _ h
      have h3 : NegL ((x - 1) :: (y - 1) :: (R ++ P)) := by simpa using h2
      have h4 := neg_rot (x :: 1 :: y :: R) P (by simpa using neg_ear h3)
      simpa using h4
theorem neg_red : ∀ (f : Nat) (l : List Int), l.length = f + 3 → red f l = true → NegL l
  | 0, l, _, h => by
    unfold red at h
    rw [decide_eq_true_eq] at h
    subst h
    intro p
    obtain ⟨b, e⟩ := p
    show stp 1 (stp 1 (stp 1 (b, e))) = _
    unfold stp
    dsimp only
    refine Prod.ext ?_ ?_ <;> dsimp only <;> omega
  | f + 1, l, hl, h => by
    unfold red at h
    rw [Bool.and_eq_true, Bool.not_eq_true', decide_eq_false_iff_not] at h
    obtain ⟨h1, h2⟩ := h
    have hb := at1_lt l l.length
    have ho := at1_one l l.length (by omega)
    have hlt : (at1 l l.length).toNat < l.length := by omega
    exact neg_cut (by omega) hlt ho (neg_red f _ (by rw [cutL_length _ _ hlt]; omega) h2)
theorem isQ_neg {q : List Int} (h : isQ q = true) : NegL q := by
  have hl := isQ_len h
  rw [isQ_red, Bool.and_eq_true] at h
  exact neg_red _ _ (by omega) h.2
/-- the steps of the model, which go round, beside the plain ones -/
theorem wrap_stp (a x y : Int) : wrap64 (wrap64 (a * wrap64 x) - wrap64 y) = wrap64 (a * x - y) := by
  have h1 : wrap64 (a * wrap64 x) = wrap64 (a * x) := by
    obtain ⟨k, hk⟩ : ∃ k, wrap64 x = x + 18446744073709551616 * k := ⟨(wrap64 x - x) / 18446744073709551616, by unfold wrap64; omega⟩
    rw [hk, Int.mul_add, show a * (18446744073709551616 * k) = 18446744073709551616 * (a * k) by grind]
    generalize a * x = u
    generalize a * k = v
    unfold wrap64
    omega
  rw [h1]
  generalize a * x = u
  unfold wrap64
  omega
theorem entS_run (q : List Int) (i : Nat) : ∀ s, i + s ≤ q.length → entS q i s = (wrap64 (runS ((q.drop i).take s) (-1, 0)).1, wrap64 (runS ((q.drop i).take s) (-1, 0)).2) := by
  intro s
  induction s with
  | zero => intro _; simp [entS, runS]; constructor <;> (unfold wrap64; omega)
  | succ s ih =>
    intro hs
    unfold entS
    rw [ih (by omega), mdI_eq]
    have e0 : ((i : Int) + (s : Int)) % (q.length : Int) = ((i + s : Nat) : Int) := by rw [Int.emod_eq_of_lt (by omega) (by omega)]; omega
    have e1 : (q.drop i).take (s + 1) = (q.drop i).take s ++ [q.getD (i + s) 0] := by
      rw [List.take_succ_eq_append_getElem (by simp; omega)]
      congr 2
      simp [List.getD_eq_getElem?_getD, show i + s < q.length by omega]
    rw [e0, Int.toNat_natCast, e1, runS_app]
    generalize runS ((q.drop i).take s) (-1, 0) = p
    show _ = (wrap64 (stp _ p).1, wrap64 (stp _ p).2)
    unfold stp
    dsimp only
    rw [wrap_stp]
/-- the entries of 0 and n, of 1 and n -/
theorem ent_end0 {q : List Int} (h : isQ q = true) : ent q 0 q.length = 0 := by
  have hn := isQ_neg h (-1, 0)
  have := entS_run q 0 q.length (by omega)
  unfold ent
  rw [show ((q.length : Int) - 0).toNat = q.length by omega]
  have e : ((0 : Nat) : Int) = 0 := rfl
  rw [e] at this
  rw [this, List.drop_zero, List.take_length, hn]
  show wrap64 (-0) = 0
  unfold wrap64
  omega
theorem ent_end1 {q : List Int} (h : isQ q = true) : ent q 1 q.length = 1 := by
  have hl := isQ_len h
  obtain ⟨a, t, rfl⟩ : ∃ a t, q = a :: t := by cases q with | nil => simp at hl | cons a t => exact ⟨a, t, rfl⟩
  have hn := isQ_neg h (-a, -1)
  have := entS_run (a :: t) 1 t.length (by simp; omega)
  unfold ent
  rw [show (((a :: t).length : Int) - 1).toNat = t.length by simp]
  have e : ((1 : Nat) : Int) = 1 := rfl
  rw [e] at this
  rw [this, List.drop_one, List.tail_cons, List.take_length]
  have e2 : stp a (-a, -1) = (-1, 0) := by unfold stp; dsimp only; congr 1; omega
  have e3 : runS t (-1, 0) = (a, 1) := by
    rw [← e2]
    have := hn
    simp only [runS] at this
    rw [this]
    simp
  rw [e3]
  show wrap64 1 = 1
  unfold wrap64
  omega
end Go.Proofs.Ytnoddecligmjbaa

/- PosM: The entries of a quiddity's frieze are not negative, and small. Plain mathematics. -/
namespace Go.Proofs.Ytnoddecligmjbaa
open Go.RowKit

theorem wrap_in' (x : Int) (h : -9000000000000000000 ≤ x ∧ x ≤ 9000000000000000000) : wrap64 x = x := by unfold wrap64; omega
/-- one list is the other, turned -/
def Rot (a b : List Int) : Prop := ∃ u v, a = u ++ v ∧ b = v ++ u
theorem Rot.trans {a b c : List Int} (h : Rot a b) (g : Rot b c) : Rot a c := by
  obtain ⟨u, v, rfl, rfl⟩ := h
  obtain ⟨u', v', e, rfl⟩ := g
  rcases List.append_eq_append_iff.1 e with ⟨t, h1, h2⟩ | ⟨t, h1, h2⟩
  · subst h1 h2; exact ⟨t, v' ++ v, by simp, by simp⟩
  · subst h1 h2; exact ⟨u ++ u', t, by simp, by simp⟩
theorem Rot.symm {a b : List Int} (h : Rot a b) : Rot b a := by
  obtain ⟨u, v, rfl, rfl⟩ := h
  exact ⟨v, u, rfl, rfl⟩
theorem Rot.refl (a : List Int) : Rot a a := ⟨[], a, rfl, by simp⟩
theorem Rot.of (u v : List Int) : Rot (u ++ v) (v ++ u) := ⟨u, v, rfl, rfl⟩
theorem Rot.neg {a b : List Int} (h : Rot a b) (hn : NegL a) : NegL b := by
  obtain ⟨u, v, rfl, rfl⟩ := h
  exact neg_rot _ _ hn
/-- an ear, turned to the front -/
theorem cut_rot {l : List Int} {k : Nat} (hl : 4 ≤ l.length) (hk : k < l.length) (h1 : l.getD k 0 = 1) : ∃ x y R, Rot l (x :: 1 :: y :: R) ∧ Rot (cutL l k) ((x - 1) :: (y - 1) :: R) := by
  have hs : l = l.take k ++ 1 :: l.drop (k + 1) := by
    have e : l[k] = 1 := by simpa [List.getD_eq_getElem?_getD, hk] using h1
    conv => lhs; rw [← List.take_append_drop k l, List.drop_eq_getElem_cons hk, e]
  have hA : (l.take k).length = k := by rw [List.length_take]; omega
  have hB : (l.drop (k + 1)).length = l.length - (k + 1) := List.length_drop
  generalize l.take k = A at *
  generalize l.drop (k + 1) = B at *
  by_cases k0 : k = 0
  · obtain rfl : A = [] := List.eq_nil_of_length_eq_zero (by omega)
    obtain ⟨y, B', rfl⟩ : ∃ y B', B = y :: B' := by cases B with | nil => simp at hB; omega | cons y B' => exact ⟨y, B', rfl⟩
    have hB' : B' ≠ [] := by rintro rfl; simp at hB; omega
    obtain ⟨R, x, rfl⟩ : ∃ R x, B' = R ++ [x] := ⟨B'.dropLast, B'.getLast hB', (List.dropLast_concat_getLast hB').symm⟩
    subst hs
    subst k0
    have e1 : cutL ([] ++ 1 :: y :: (R ++ [x])) 0 = (y - 1) :: R ++ [x - 1] := by
      rw [cut_as (a := R.length + 2) (b := 1) (by simp) (by simp)]
      rw [show ([] : List Int) ++ 1 :: y :: (R ++ [x]) = (1 :: y :: R) ++ x :: [] by simp, decr_mid (1 :: y :: R) x [] (by simp), show (1 :: y :: R) ++ [x - 1] = [1] ++ y :: (R ++ [x - 1]) by simp, decr_mid (k := 1) [1] y _ rfl]
      rfl
    rw [e1]
    exact ⟨x, y, R, ⟨1 :: y :: R, [x], by simp, by simp⟩, ⟨(y - 1) :: R, [x - 1], by simp, by simp⟩⟩
  · obtain ⟨P, x, rfl⟩ : ∃ P x, A = P ++ [x] := by
      have hne : A ≠ [] := by rintro rfl; simp at hA; omega
      exact ⟨A.dropLast, A.getLast hne, (List.dropLast_concat_getLast hne).symm⟩
    have hkP : k = P.length + 1 := by simp at hA; omega
    cases B with
    | nil =>
      simp at hB
      have hm : k + 1 = l.length := by omega
      obtain ⟨y, R, rfl⟩ : ∃ y R, P = y :: R := by cases P with | nil => simp at hkP; omega | cons y R => exact ⟨y, R, rfl⟩
      subst hs
      have hll : ((y :: R ++ [x]) ++ [(1 : Int)]).length = k + 1 := by simp at hkP ⊢; omega
      have e1 : cutL ((y :: R ++ [x]) ++ [1]) k = (y - 1) :: R ++ [x - 1] := by
        rw [cut_as (a := k - 1) (b := 0) (by rw [hll]; rw [show k + (k + 1) - 1 = (k - 1) + (k + 1) by omega, Nat.add_mod_right]; exact Nat.mod_eq_of_lt (by omega)) (by rw [hll, Nat.mod_self])]
        rw [show (y :: R ++ [x]) ++ [(1 : Int)] = (y :: R) ++ x :: [1] by simp, decr_mid (y :: R) x [1] (by simp at hkP ⊢; omega), show (y :: R) ++ (x - 1) :: [1] = [] ++ y :: (R ++ (x - 1) :: [1]) by simp, decr_mid (k := 0) [] y _ rfl,
          show [] ++ (y - 1) :: (R ++ (x - 1) :: [1]) = ((y - 1) :: R ++ [x - 1]) ++ 1 :: [] by simp, erase_mid _ _ _ (by simp at hkP ⊢; omega)]
        simp
      rw [e1]
      exact ⟨x, y, R, ⟨y :: R, [x, 1], by simp, by simp⟩, ⟨(y - 1) :: R, [x - 1], by simp, by simp⟩⟩
    | cons y R =>
      have hm : k + 1 < l.length := by simp at hB; omega
      subst hs
      have hll : ((P ++ [x]) ++ 1 :: y :: R).length = k + 2 + R.length := by simp; omega
      have e1 : cutL ((P ++ [x]) ++ 1 :: y :: R) k = P ++ (x - 1) :: (y - 1) :: R := by
        rw [cut_as (a := k - 1) (b := k + 1) (by rw [hll]; rw [show k + (k + 2 + R.length) - 1 = (k - 1) + (k + 2 + R.length) by omega, Nat.add_mod_right]; exact Nat.mod_eq_of_lt (by omega)) (by rw [hll]; exact Nat.mod_eq_of_lt (by omega))]
        rw [show (P ++ [x]) ++ 1 :: y :: R = P ++ x :: (1 :: y :: R) by simp, decr_mid P x _ (by omega), show P ++ (x - 1) :: 1 :: y :: R = (P ++ [x - 1, 1]) ++ y :: R by simp, decr_mid _ y _ (by simp; omega),
          show (P ++ [x - 1, 1]) ++ (y - 1) :: R = (P ++ [x - 1]) ++ 1 :: (y - 1) :: R by simp, erase_mid _ _ _ (by simp; omega)]
        simp
      rw [e1]
      exact ⟨x, y, R ++ P, ⟨P, x :: 1 :: y :: R, by simp, by simp⟩, ⟨P, (x - 1) :: (y - 1) :: R, by simp, by simp⟩⟩

/-- no entry along the numbers is negative -/
def NN : List Int → Int × Int → Prop
  | [], p => 0 ≤ p.2
  | a :: r, p => 0 ≤ p.2 ∧ NN r (stp a p)
theorem NN.head {l : List Int} {p : Int × Int} (h : NN l p) : 0 ≤ p.2 := by
  cases l with
  | nil => exact h
  | cons a r => exact h.1
theorem nn_app : ∀ (l r : List Int) (p : Int × Int), NN (l ++ r) p ↔ NN l p ∧ NN r (runS l p)
  | [], r, p => ⟨fun h => ⟨h.head, h⟩, fun h => h.2⟩
  | a :: l, r, p => by
    show (0 ≤ p.2 ∧ NN (l ++ r) (stp a p)) ↔ (0 ≤ p.2 ∧ NN l (stp a p)) ∧ NN r (runS l (stp a p))
    rw [nn_app l r, and_assoc]
theorem nn_ear {x y : Int} {S : List Int} {p : Int × Int} (h : NN ((x - 1) :: (y - 1) :: S) p) : NN (x :: 1 :: y :: S) p := by
  obtain ⟨b, e⟩ := p
  obtain ⟨h0, h1, h2⟩ := h
  have h3 := h2.head
  have e1 : stp y (stp 1 (stp x (b, e))) = stp (y - 1) (stp (x - 1) (b, e)) := ear_run x y (b, e)
  refine ⟨h0, ?_, ?_, by rw [e1]; exact h2⟩
  · show 0 ≤ x * e - b
    have : 0 ≤ (x - 1) * e - b := h1
    have h0' : 0 ≤ e := h0
    grind
  · show 0 ≤ 1 * (x * e - b) - e
    have : 0 ≤ (x - 1) * e - b := h1
    grind
def addP (p q : Int × Int) : Int × Int := (p.1 + q.1, p.2 + q.2)
theorem stp_add (a : Int) (p q : Int × Int) : stp a (addP p q) = addP (stp a p) (stp a q) := by
  unfold stp addP
  dsimp only
  refine Prod.ext rfl ?_
  dsimp only
  grind
theorem nn_add : ∀ (l : List Int) (p q : Int × Int), NN l p → NN l q → NN l (addP p q)
  | [], p, q, h, g => by
    have h' : 0 ≤ p.2 := h
    have g' : 0 ≤ q.2 := g
    show 0 ≤ p.2 + q.2
    omega
  | a :: l, p, q, h, g => by
    have h' : 0 ≤ p.2 := h.1
    have g' : 0 ≤ q.2 := g.1
    refine ⟨?_, ?_⟩
    · show 0 ≤ p.2 + q.2
      omega
    · rw [stp_add]
      exact nn_add l _ _ h.2 g.2
/-- from wherever one begins, no entry is negative -/
def PosL (l : List Int) : Prop := ∀ u v, l = u ++ v → NN (v ++ u) (-1, 0)
theorem PosL.all {l r : List Int} (h : PosL l) (hr : Rot l r) : NN r (-1, 0) := by
  obtain ⟨u, v, e, rfl⟩ := hr
  exact h u v e
theorem PosL.rot {a b : List Int} (h : PosL a) (hr : Rot a b) : PosL b := fun u v e => h.all (hr.trans ⟨u, v, e, rfl⟩)
theorem stp_first (a : Int) : stp a (-1, 0) = (0, 1) := by unfold stp; dsimp only; congr 1; omega
theorem pos_ear {x y : Int} {R : List Int} (h : PosL ((x - 1) :: (y - 1) :: R)) (hn : NegL (x :: 1 :: y :: R)) : PosL (x :: 1 :: y :: R) := by
  intro u v e
  match u, e with
  | [], e =>
    obtain rfl : v = x :: 1 :: y :: R := e.symm
    rw [List.append_nil]
    exact nn_ear (h.all (Rot.refl _))
  | [x'], e =>
    injection e with e1 e2
    subst e1
    obtain rfl : v = 1 :: y :: R := e2.symm
    have hA := h.all (Rot.refl _)
    have hB := h.all (Rot.of [x - 1] ((y - 1) :: R))
    have hN := neg_rot [x] (1 :: y :: R) hn (-1, 0)
    rw [nn_app]
    have hA2 := hA.2.2
    rw [stp_first] at hA2
    have hB2 := ((nn_app ((y - 1) :: R) [x - 1] (-1, 0)).1 hB).1.2
    rw [stp_first] at hB2
    have e3 : stp y (stp 1 (-1, 0)) = addP (stp (y - 1) (0, 1)) (0, 1) := by
      rw [stp_first]
      unfold stp addP
      dsimp only
      refine Prod.ext ?_ ?_ <;> dsimp only <;> omega
    have hR := nn_add R _ _ hA2 hB2
    rw [← e3] at hR
    have h1 : NN (1 :: y :: R) (-1, 0) := ⟨by decide, by rw [stp_first]; decide, hR⟩
    refine ⟨h1, ?_⟩
    have h2 := ((nn_app (1 :: y :: R) [] (-1, 0)).1 (by rw [List.append_nil]; exact h1)).2
    refine ⟨h2, ?_⟩
    rw [runS_app] at hN
    show 0 ≤ (stp x (runS (1 :: y :: R) (-1, 0))).2
    have e4 : stp x (runS (1 :: y :: R) (-1, 0)) = (-(-1), -0) := hN
    rw [e4]
    decide
  | [x', o'], e =>
    injection e with e1 e2
    injection e2 with e3 e4
    subst e1 e3
    obtain rfl : v = y :: R := e4.symm
    have hB := h.all (Rot.of [x - 1] ((y - 1) :: R))
    obtain ⟨hB1, hB2⟩ := (nn_app ((y - 1) :: R) [x - 1] (-1, 0)).1 hB
    have e5 : runS ((y - 1) :: R) (-1, 0) = runS (y :: R) (-1, 0) := by
      show runS R (stp (y - 1) (-1, 0)) = runS R (stp y (-1, 0))
      rw [stp_first, stp_first]
    rw [e5] at hB2
    rw [nn_app]
    refine ⟨⟨by decide, ?_⟩, ?_⟩
    · have := hB1.2
      rw [stp_first] at this ⊢
      exact this
    · generalize runS (y :: R) (-1, 0) = p at *
      obtain ⟨b, e⟩ := p
      obtain ⟨c1, c2⟩ := hB2
      have c1' : 0 ≤ e := c1
      have c2' : 0 ≤ (x - 1) * e - b := c2
      refine ⟨c1, ?_, ?_⟩
      · show 0 ≤ x * e - b
        grind
      · show 0 ≤ 1 * (x * e - b) - e
        grind
  | x' :: o' :: y' :: R1, e =>
    injection e with e1 e2
    injection e2 with e3 e4
    injection e4 with e5 e6
    subst e1 e3 e5 e6
    have hB := h.all (r := v ++ (x - 1) :: (y - 1) :: R1) ⟨(x - 1) :: (y - 1) :: R1, v, by simp, rfl⟩
    rw [nn_app] at hB ⊢
    exact ⟨hB.1, nn_ear hB.2⟩
theorem pos_red : ∀ (f : Nat) (l : List Int), l.length = f + 3 → red f l = true → PosL l
  | 0, l, _, h => by
    unfold red at h
    rw [decide_eq_true_eq] at h
    subst h
    intro u v e
    have hv : v ++ u = [1, 1, 1] := by
      match u, e with
      | [], e => simpa using e.symm
      | [a], e => injection e with e1 e2; subst e1 e2; rfl
      | [a, b], e => injection e with e1 e2; injection e2 with e3 e4; subst e1 e3 e4; rfl
      | [a, b, c], e => injection e with e1 e2; injection e2 with e3 e4; injection e4 with e5 e6; subst e1 e3 e5 e6; rfl
      | a :: b :: c :: d :: r, e => simp at e
    rw [hv]
    simp [NN, stp]
  | f + 1, l, hl, h => by
    have hN := neg_red (f + 1) l hl h
    unfold red at h
    rw [Bool.and_eq_true, Bool.not_eq_true', decide_eq_false_iff_not] at h
    obtain ⟨h1, h2⟩ := h
    have hb := at1_lt l l.length
    have ho := at1_one l l.length (by omega)
    have hlt : (at1 l l.length).toNat < l.length := by omega
    obtain ⟨x, y, R, r1, r2⟩ := cut_rot (by omega) hlt ho
    have hp := pos_red f _ (by rw [cutL_length _ _ hlt]; omega) h2
    exact (pos_ear (hp.rot r2) (r1.neg hN)).rot r1.symm
/-- the entries, from a place that is turned to the front -/
theorem nn_take : ∀ (l : List Int) (p : Int × Int) (s : Nat), NN l p → 0 ≤ (runS (l.take s) p).2
  | [], p, s, h => by rw [List.take_nil]; exact h
  | a :: l, p, 0, h => h.1
  | a :: l, p, s + 1, h => by
    rw [List.take_succ_cons]
    exact nn_take l (stp a p) s h.2
theorem isQ_pos {q : List Int} (h : isQ q = true) : PosL q := by
  have hl := isQ_len h
  rw [isQ_red, Bool.and_eq_true] at h
  exact pos_red _ _ (by omega) h.2
def rotN (q : List Int) (i : Nat) : List Int := q.drop i ++ q.take i
theorem rotN_length (q : List Int) (i : Nat) (h : i ≤ q.length) : (rotN q i).length = q.length := by unfold rotN; simp; omega
theorem rotN_get (q : List Int) (i s : Nat) (hi : i < q.length) (hs : s < q.length) : (rotN q i).getD s 0 = q.getD ((i + s) % q.length) 0 := by
  unfold rotN
  simp only [List.getD_eq_getElem?_getD]
  by_cases h : i + s < q.length
  · rw [List.getElem?_append_left (by simp; omega), List.getElem?_drop, Nat.mod_eq_of_lt h]
  · rw [List.getElem?_append_right (by simp; omega), List.length_drop, List.getElem?_take, if_pos (by omega)]
    have e : (i + s) % q.length = s - (q.length - i) := by rw [Nat.mod_eq_sub_mod (by omega), Nat.mod_eq_of_lt (by omega)]; omega
    rw [e]
theorem entS_turn (q : List Int) (i : Nat) (hi : i < q.length) : ∀ s, s ≤ q.length → entS q i s = (wrap64 (runS ((rotN q i).take s) (-1, 0)).1, wrap64 (runS ((rotN q i).take s) (-1, 0)).2) := by
  intro s
  induction s with
  | zero => intro _; simp [entS, runS]; constructor <;> (unfold wrap64; omega)
  | succ s ih =>
    intro hs
    unfold entS
    have hL := rotN_length q i (by omega)
    rw [ih (by omega), mdI_eq]
    have e0 : ((i : Int) + (s : Int)) % (q.length : Int) = (((i + s) % q.length : Nat) : Int) := by rw [Int.natCast_emod]; rfl
    have e1 : (rotN q i).take (s + 1) = (rotN q i).take s ++ [q.getD ((i + s) % q.length) 0] := by
      rw [List.take_succ_eq_append_getElem (by omega), ← rotN_get q i s hi (by omega)]
      congr 2
      simp [show s < (rotN q i).length by omega]
    rw [e0, Int.toNat_natCast, e1, runS_app]
    generalize runS ((rotN q i).take s) (-1, 0) = p
    show _ = (wrap64 (stp _ p).1, wrap64 (stp _ p).2)
    unfold stp
    dsimp only
    rw [wrap_stp]
theorem rotN_rot (q : List Int) (i : Nat) : Rot q (rotN q i) := ⟨q.take i, q.drop i, (List.take_append_drop i q).symm, rfl⟩
/-- from the first step on, the entry before is not negative either, and each is at most ten times as great -/
theorem run_bd {q : List Int} (h : isQ q = true) (i : Nat) (hi : i < q.length) : ∀ s, s + 1 ≤ q.length → 0 ≤ (runS ((rotN q i).take (s + 1)) (-1, 0)).1 ∧ 0 ≤ (runS ((rotN q i).take (s + 1)) (-1, 0)).2 ∧ (runS ((rotN q i).take (s + 1)) (-1, 0)).2 ≤ (10 : Int) ^ s := by
  have hl := isQ_len h
  have hL := rotN_length q i (by omega)
  have hp := (isQ_pos h).all (rotN_rot q i)
  intro s
  induction s with
  | zero =>
    intro hs
    have e : (rotN q i).take (0 + 1) = [(rotN q i).getD 0 0] := by
      rw [List.take_succ_eq_append_getElem (by omega)]
      simp [show 0 < (rotN q i).length by omega]
    rw [e]
    show 0 ≤ (stp _ (-1, 0)).1 ∧ 0 ≤ (stp _ (-1, 0)).2 ∧ (stp _ (-1, 0)).2 ≤ 10 ^ 0
    rw [stp_first]
    decide
  | succ s ih =>
    intro hs
    obtain ⟨h1, h2, h3⟩ := ih (by omega)
    have hn := nn_take _ _ (s + 1 + 1) hp
    have g := isQ_get h ((i + (s + 1)) % q.length) (Nat.mod_lt _ (by omega))
    have e1 : (rotN q i).take (s + 1 + 1) = (rotN q i).take (s + 1) ++ [q.getD ((i + (s + 1)) % q.length) 0] := by
      rw [List.take_succ_eq_append_getElem (by omega), ← rotN_get q i (s + 1) hi (by omega)]
      congr 2
      simp [show s + 1 < (rotN q i).length by omega]
    rw [e1, runS_app] at hn ⊢
    generalize runS ((rotN q i).take (s + 1)) (-1, 0) = p at *
    obtain ⟨b, e⟩ := p
    generalize q.getD ((i + (s + 1)) % q.length) 0 = a at *
    refine ⟨h2, hn, ?_⟩
    show a * e - b ≤ (10 : Int) ^ (s + 1)
    have h1' : 0 ≤ b := h1
    have h2' : 0 ≤ e := h2
    have h3' : e ≤ (10 : Int) ^ s := h3
    have m1 : a * e ≤ 10 * e := Int.mul_le_mul_of_nonneg_right (by omega) h2'
    rw [Int.pow_succ]
    omega
/-- an entry is not negative and small -/
theorem ent_bd {q : List Int} (h : isQ q = true) (i s : Nat) (hi : i < q.length) (hs : s + 1 ≤ q.length) : 0 ≤ ent q i ((i : Int) + ((s : Int) + 1)) ∧ ent q i ((i : Int) + ((s : Int) + 1)) ≤ 100000000000 := by
  have hl := isQ_len h
  unfold ent
  rw [show ((i : Int) + ((s : Int) + 1) - (i : Int)).toNat = s + 1 by omega, entS_turn q i hi (s + 1) hs]
  obtain ⟨_, h2, h3⟩ := run_bd h i hi s hs
  have h4 : (10 : Int) ^ s ≤ 10 ^ 11 := by
    have : (10 : Nat) ^ s ≤ 10 ^ 11 := Nat.pow_le_pow_right (by omega) (by omega)
    exact_mod_cast this
  have h5 : (10 : Int) ^ 11 = 100000000000 := by decide
  dsimp only
  rw [wrap_in' _ (by omega)]
  omega
end Go.Proofs.Ytnoddecligmjbaa

/- CcM: Lists of positive numbers that close are quiddities if their sum is that of one: Conway's and Coxeter's theorem. Plain mathematics. -/
namespace Go.Proofs.Ytnoddecligmjbaa
open Go.RowKit

/-- all comes back e times -/
def Cyc (e : Int) (l : List Int) : Prop := ∀ p, runS l p = (e * p.1, e * p.2)
theorem Cyc.neg {l : List Int} (h : Cyc (-1) l) : NegL l := fun p => by rw [h p]; simp
theorem NegL.cyc {l : List Int} (h : NegL l) : Cyc (-1) l := fun p => by rw [h p]; simp
theorem cyc_rot1 {e a : Int} {t : List Int} (h : Cyc e (a :: t)) : Cyc e (t ++ [a]) := fun p => by
  obtain ⟨x, b⟩ := p
  have h1 := h (a * x - b, x)
  have e1 : stp a (a * x - b, x) = (x, b) := by unfold stp; dsimp only; congr 1; omega
  have h2 : runS t (x, b) = (e * (a * x - b), e * x) := by rw [← e1]; exact h1
  rw [runS_app, h2]
  show stp a _ = _
  unfold stp
  refine Prod.ext rfl ?_
  dsimp only
  grind
theorem cyc_rot {e : Int} : ∀ (l r : List Int), Cyc e (l ++ r) → Cyc e (r ++ l)
  | [], r, h => by simpa using h
  | a :: l, r, h => by
    have := cyc_rot l (r ++ [a]) (by rw [← List.append_assoc]; exact cyc_rot1 h)
    rw [List.append_assoc] at this
    exact this
theorem Rot.cyc {e : Int} {a b : List Int} (h : Rot a b) (hc : Cyc e a) : Cyc e b := by
  obtain ⟨u, v, rfl, rfl⟩ := h
  exact cyc_rot _ _ hc
theorem Rot.len {a b : List Int} (h : Rot a b) : a.length = b.length := by
  obtain ⟨u, v, rfl, rfl⟩ := h
  simp
  omega
theorem Rot.mem {a b : List Int} (h : Rot a b) {x : Int} (hx : x ∈ b) : x ∈ a := by
  obtain ⟨u, v, rfl, rfl⟩ := h
  simp at hx ⊢
  exact hx.symm
/-- the sum of what is wanting to three -/
def sm3 : List Int → Int
  | [] => 0
  | a :: r => (3 - a) + sm3 r
theorem sm3_app : ∀ (l r : List Int), sm3 (l ++ r) = sm3 l + sm3 r
  | [], r => by simp [sm3]
  | a :: l, r => by
    have := sm3_app l r
    simp only [List.cons_append, sm3, this]
    omega
theorem Rot.sm {a b : List Int} (h : Rot a b) : sm3 a = sm3 b := by
  obtain ⟨u, v, rfl, rfl⟩ := h
  rw [sm3_app, sm3_app]
  omega
theorem cyc_ear {e x y : Int} {r : List Int} (h : Cyc e (x :: 1 :: y :: r)) : Cyc e ((x - 1) :: (y - 1) :: r) := fun p => by
  have := h p
  rw [show x :: 1 :: y :: r = [x, 1, y] ++ r from rfl, runS_app, ear_run, ← runS_app] at this
  exact this
theorem run_neg : ∀ (l : List Int) (a b : Int), runS l (-a, -b) = (-(runS l (a, b)).1, -(runS l (a, b)).2)
  | [], _, _ => rfl
  | x :: r, a, b => by
    show runS r (-b, x * -b - -a) = (-(runS r (b, x * b - a)).1, -(runS r (b, x * b - a)).2)
    rw [show x * -b - -a = -(x * b - a) by rw [Int.mul_neg]; omega]
    exact run_neg r b (x * b - a)
theorem cyc_ones {e x y : Int} {r : List Int} (h : Cyc e (x :: 1 :: 1 :: y :: r)) : Cyc (-e) ((x + y - 1) :: r) := fun p => by
  obtain ⟨a, b⟩ := p
  have h1 := h (a, b)
  have h2 : runS (x :: 1 :: 1 :: y :: r) (a, b) = runS r (-b, -((x + y - 1) * b - a)) := by
    show runS r (stp y (stp 1 (stp 1 (stp x (a, b))))) = _
    congr 1
    unfold stp
    refine Prod.ext ?_ ?_ <;> dsimp only <;> grind
  rw [h2, run_neg] at h1
  show runS r (b, (x + y - 1) * b - a) = _
  have h3 := congrArg Prod.fst h1
  have h4 := congrArg Prod.snd h1
  dsimp only at h3 h4
  refine Prod.ext ?_ ?_ <;> dsimp only <;> grind
theorem run_grow : ∀ (l : List Int), (∀ x ∈ l, 2 ≤ x) → ∀ a b : Int, 0 ≤ a → a < b → a ≤ (runS l (a, b)).1 ∧ (runS l (a, b)).1 < (runS l (a, b)).2
  | [], _, a, b, _, h => ⟨Int.le_refl _, h⟩
  | x :: r, hx, a, b, h0, h => by
    have hx2 := hx x (by simp)
    have hm : 0 ≤ (x - 2) * b := Int.mul_nonneg (by omega) (by omega)
    have hm' : (x - 2) * b = x * b - 2 * b := Int.sub_mul _ _ _
    obtain ⟨r1, r2⟩ := run_grow r (fun y hy => hx y (by simp [hy])) b (x * b - a) (by omega) (by omega)
    show a ≤ (runS r (b, x * b - a)).1 ∧ (runS r (b, x * b - a)).1 < (runS r (b, x * b - a)).2
    exact ⟨by omega, r2⟩
theorem has_one {e : Int} {l : List Int} (h : Cyc e l) (hp : ∀ x ∈ l, 1 ≤ x) (hl : l ≠ []) : ∃ k, k < l.length ∧ l.getD k 0 = 1 := by
  by_cases hx : (1 : Int) ∈ l
  · obtain ⟨k, hk, e⟩ := List.getElem_of_mem hx
    exact ⟨k, hk, by rw [List.getD_eq_getElem?_getD, List.getElem?_eq_getElem hk]; exact e⟩
  · exfalso
    cases l with
    | nil => exact hl rfl
    | cons a r =>
      have h2 : ∀ x ∈ a :: r, 2 ≤ x := fun x hm => by
        have := hp x hm
        by_cases e : x = 1
        · subst e; exact absurd hm hx
        · omega
      have ha := h2 a (by simp)
      obtain ⟨r1, r2⟩ := run_grow r (fun y hy => h2 y (by simp [hy])) 1 (a * 1 - 0) (by omega) (by omega)
      have h1 : runS r (1, a * 1 - 0) = (e * 0, e * 1) := h (0, 1)
      rw [h1] at r1
      simp at r1
theorem ear_front {l : List Int} {k : Nat} (hl : 3 ≤ l.length) (hk : k < l.length) (h1 : l.getD k 0 = 1) : ∃ x y R, Rot l (x :: 1 :: y :: R) := by
  by_cases h4 : 4 ≤ l.length
  · obtain ⟨x, y, R, h, _⟩ := cut_rot h4 hk h1
    exact ⟨x, y, R, h⟩
  · match l, hl, h4 with
    | [a, b, c], _, _ =>
      match k, hk with
      | 0, _ =>
        simp at h1
        subst h1
        exact ⟨c, b, [], ⟨[1, b], [c], rfl, rfl⟩⟩
      | 1, _ =>
        simp at h1
        subst h1
        exact ⟨a, c, [], Rot.refl _⟩
      | 2, _ =>
        simp at h1
        subst h1
        exact ⟨b, a, [], ⟨[a], [b, 1], rfl, rfl⟩⟩
    | a :: b :: c :: d :: r, _, h4 => simp at h4
/-- two ears beside each other are taken out with a number -/
theorem ones_out {e x y : Int} {R : List Int} (h : Cyc e (x :: 1 :: y :: R)) (hp : ∀ u ∈ x :: 1 :: y :: R, 1 ≤ u) (hR : R ≠ []) (h1 : x = 1 ∨ y = 1) :
    ∃ (e' : Int) (l' : List Int), l' ≠ [] ∧ (∀ u ∈ l', 1 ≤ u) ∧ Cyc e' l' ∧ sm3 (x :: 1 :: y :: R) = sm3 l' + 6 ∧ l'.length + 3 = (x :: 1 :: y :: R).length := by
  rcases h1 with rfl | rfl
  · obtain ⟨Q, u, rfl⟩ : ∃ Q u, R = Q ++ [u] := ⟨R.dropLast, R.getLast hR, (List.dropLast_concat_getLast hR).symm⟩
    have hr : Rot (1 :: 1 :: y :: (Q ++ [u])) (u :: 1 :: 1 :: y :: Q) := ⟨1 :: 1 :: y :: Q, [u], by simp, by simp⟩
    have hy := hp y (by simp)
    have hu := hp u (by simp)
    refine ⟨-e, (u + y - 1) :: Q, by simp, ?_, cyc_ones (hr.cyc h), ?_, by simp⟩
    · intro v hv
      rcases List.mem_cons.1 hv with rfl | hv
      · omega
      · exact hp v (by simp [hv])
    · rw [hr.sm]
      simp only [sm3]
      omega
  · obtain ⟨u, Q, rfl⟩ : ∃ u Q, R = u :: Q := by cases R with | nil => exact absurd rfl hR | cons u Q => exact ⟨u, Q, rfl⟩
    have hx := hp x (by simp)
    have hu := hp u (by simp)
    refine ⟨-e, (x + u - 1) :: Q, by simp, ?_, cyc_ones h, ?_, by simp⟩
    · intro v hv
      rcases List.mem_cons.1 hv with rfl | hv
      · omega
      · exact hp v (by simp [hv])
    · simp only [sm3]
      omega
theorem pos_less {x y : Int} {R : List Int} (hp : ∀ u ∈ x :: 1 :: y :: R, 1 ≤ u) (hx : ¬ x = 1) (hy : ¬ y = 1) : ∀ u ∈ (x - 1) :: (y - 1) :: R, 1 ≤ u := by
  intro u hu
  have h1 := hp x (by simp)
  have h2 := hp y (by simp)
  rcases List.mem_cons.1 hu with rfl | hu
  · omega
  · rcases List.mem_cons.1 hu with rfl | hu
    · omega
    · exact hp u (by simp [hu])
/-- what is wanting to three is six times the number of times that it goes around -/
theorem wind : ∀ (n : Nat) (e : Int) (l : List Int), l.length ≤ n → l ≠ [] → (∀ x ∈ l, 1 ≤ x) → Cyc e l → ∃ w : Int, 1 ≤ w ∧ sm3 l = 6 * w := by
  intro n
  induction n with
  | zero => intro e l hl hn; exact absurd (List.eq_nil_of_length_eq_zero (by omega)) hn
  | succ n ih =>
    intro e l hl hn hp hc
    obtain ⟨k, hk, hk1⟩ := has_one hc hp hn
    by_cases h3 : 3 ≤ l.length
    · obtain ⟨x, y, R, hr⟩ := ear_front h3 hk hk1
      have hc' := hr.cyc hc
      have hp' : ∀ u ∈ x :: 1 :: y :: R, 1 ≤ u := fun u hu => hp u (hr.mem hu)
      have hlen := hr.len
      rw [hr.sm]
      by_cases hR : R = []
      · subst hR
        have he := cyc_ear hc'
        have e1 := congrArg Prod.fst (he (0, 1))
        have e2 := congrArg Prod.snd (he (1, 0))
        simp [runS, stp] at e1 e2
        refine ⟨1, by omega, ?_⟩
        simp only [sm3]
        omega
      · by_cases hx : x = 1
        · obtain ⟨e', l', q1, q2, q3, q4, q5⟩ := ones_out hc' hp' hR (.inl hx)
          obtain ⟨v, v1, v2⟩ := ih e' l' (by omega) q1 q2 q3
          exact ⟨v + 1, by omega, by omega⟩
        · by_cases hy : y = 1
          · obtain ⟨e', l', q1, q2, q3, q4, q5⟩ := ones_out hc' hp' hR (.inr hy)
            obtain ⟨v, v1, v2⟩ := ih e' l' (by omega) q1 q2 q3
            exact ⟨v + 1, by omega, by omega⟩
          · obtain ⟨v, v1, v2⟩ := ih e ((x - 1) :: (y - 1) :: R) (by simp at hlen ⊢; omega) (by simp) (pos_less hp' hx hy) (cyc_ear hc')
            refine ⟨v, v1, ?_⟩
            rw [← v2]
            simp only [sm3]
            omega
    · exfalso
      match l, hn, h3, hp, hc with
      | [a], _, _, hp, hc =>
        have e1 := congrArg Prod.snd (hc (1, 0))
        simp [runS, stp] at e1
      | [a, b], _, _, hp, hc =>
        have e1 := congrArg Prod.fst (hc (0, 1))
        have := hp a (by simp)
        simp [runS, stp] at e1
        omega
      | a :: b :: c :: r, _, h3, _, _ => simp at h3
theorem cc_red : ∀ (f : Nat) (e : Int) (l : List Int), l.length = f + 3 → (∀ x ∈ l, 1 ≤ x) → Cyc e l → sm3 l = 6 → red f l = true := by
  intro f
  induction f with
  | zero =>
    intro e l hl hp hc hs
    match l, hl with
    | [a, b, c], _ =>
      have h1 := hp a (by simp)
      have h2 := hp b (by simp)
      have h3 := hp c (by simp)
      simp only [sm3] at hs
      obtain rfl : a = 1 := by omega
      obtain rfl : b = 1 := by omega
      obtain rfl : c = 1 := by omega
      rfl
  | succ f ih =>
    intro e l hl hp hc hs
    obtain ⟨k, hk, hk1⟩ := has_one hc hp (by rintro rfl; simp at hl)
    obtain ⟨x, y, R, hr, hr2⟩ := cut_rot (by omega) hk hk1
    have hc' := hr.cyc hc
    have hp' : ∀ u ∈ x :: 1 :: y :: R, 1 ≤ u := fun u hu => hp u (hr.mem hu)
    have hlen := hr.len
    rw [hr.sm] at hs
    have hR : R ≠ [] := by rintro rfl; simp at hlen; omega
    have hno : ¬(x = 1 ∨ y = 1) := fun h => by
      obtain ⟨e', l', q1, q2, q3, q4, q5⟩ := ones_out hc' hp' hR h
      obtain ⟨v, v1, v2⟩ := wind _ e' l' (Nat.le_refl _) q1 q2 q3
      omega
    have hps := pos_less hp' (fun h => hno (.inl h)) (fun h => hno (.inr h))
    have hc2 := hr2.symm.cyc (cyc_ear hc')
    have hs2 : sm3 (cutL l k) = 6 := by
      rw [hr2.sm, ← hs]
      simp only [sm3]
      omega
    exact red_ear (anyEar f) (by omega) hk hk1 (ih e _ (by rw [cutL_length _ _ hk]; omega) (fun u hu => hps u (hr2.symm.mem hu)) hc2 hs2)
theorem red_high {f : Nat} {l : List Int} (h : red f l = true) (hl : l.length = f + 3) (j : Nat) (hj : j < l.length) : l.getD j 0 ≤ (f : Int) + 1 := by
  rw [← ofI_red f l [] []] at h
  by_cases hx : (f : Int) + 1 < l.getD j 0
  · rw [ofI_bad f l [] [] hl ⟨j, hj, .inr hx⟩] at h
    simp at h
  · omega
theorem cc_isQ {l : List Int} (h3 : 3 ≤ l.length) (h12 : l.length ≤ 12) (hp : ∀ x ∈ l, 1 ≤ x) (hn : NegL l) (hs : sm3 l = 6) : isQ l = true := by
  have hr := cc_red (l.length - 3) (-1) l (by omega) hp hn.cyc hs
  rw [isQ_red, Bool.and_eq_true]
  refine ⟨?_, hr⟩
  unfold couldB poB
  rw [Bool.and_eq_true]
  refine ⟨by simp; omega, allB_iff.2 fun i hi => ?_⟩
  have h1 := red_low hr (by omega) i hi
  have h2 := red_high hr (by omega) i hi
  omega
/-- backwards -/
theorem run_back : ∀ (l : List Int) (p : Int × Int), runS l.reverse ((runS l p).2, (runS l p).1) = (p.2, p.1)
  | [], p => rfl
  | a :: r, p => by
    rw [List.reverse_cons, runS_app]
    have := run_back r (stp a p)
    show runS [a] (runS r.reverse ((runS r (stp a p)).2, (runS r (stp a p)).1)) = _
    rw [this]
    obtain ⟨x, y⟩ := p
    show stp a _ = _
    unfold stp
    refine Prod.ext ?_ ?_ <;> dsimp only <;> omega
theorem neg_back {l : List Int} (h : NegL l) : NegL l.reverse := fun p => by
  obtain ⟨x, y⟩ := p
  have h1 := run_back l (-y, -x)
  rw [h (-y, -x)] at h1
  simpa using h1
end Go.Proofs.Ytnoddecligmjbaa

/- CcN: Matrices of lists, and what closes: ones put in, turned lists, lists backwards. Plain mathematics. -/
namespace Go.Proofs.Ytnoddecligmjbaa
open Go.RowKit

theorem ctF_run : ∀ (l : List Int) (p : Int × Int), ctF (-1) p l = runS l p
  | [], _ => rfl
  | x :: r, p => by
    rw [ctF_cons, ctF_run r]
    show runS r (p.2, x * p.2 + -1 * p.1) = runS r (p.2, x * p.2 - p.1)
    congr 2
    omega
theorem mlR_run (l : List Int) : mlR l = ⟨(runS l (0, 1)).2, -(runS l (0, 1)).1, (runS l (-1, 0)).2, -(runS l (-1, 0)).1⟩ := by
  have h := foldSq l (0, 1) (-1, 0)
  rw [ctF_run, ctF_run] at h
  rw [← prodSq]
  exact h
theorem run_lin : ∀ (l : List Int) (x y : Int) (u v : Int × Int), runS l (x * u.1 + y * v.1, x * u.2 + y * v.2) = (x * (runS l u).1 + y * (runS l v).1, x * (runS l u).2 + y * (runS l v).2)
  | [], _, _, _, _ => rfl
  | a :: r, x, y, u, v => by
    have h := run_lin r x y (stp a u) (stp a v)
    show runS r (stp a _) = _
    rw [show stp a (x * u.1 + y * v.1, x * u.2 + y * v.2) = (x * (stp a u).1 + y * (stp a v).1, x * (stp a u).2 + y * (stp a v).2) from ?_]
    · exact h
    · unfold stp
      refine Prod.ext ?_ ?_ <;> dsimp only <;> grind
theorem closes_neg {l : List Int} : (mlR l).eqB ⟨-1, 0, 0, -1⟩ = true ↔ NegL l := by
  rw [M4.eqB_iff, mlR_run]
  constructor
  · intro h p
    obtain ⟨x, y⟩ := p
    have h1 := congrArg M4.a h
    have h2 := congrArg M4.b h
    have h3 := congrArg M4.c h
    have h4 := congrArg M4.d h
    dsimp only at h1 h2 h3 h4
    have e := run_lin l y (-x) (0, 1) (-1, 0)
    dsimp only at e
    rw [show y * 0 + -x * -1 = x by omega, show y * 1 + -x * 0 = y by omega] at e
    rw [e]
    refine Prod.ext ?_ ?_ <;> dsimp only
    · rw [show (runS l (0, 1)).1 = 0 by omega, show (runS l (-1, 0)).1 = 1 by omega]; omega
    · rw [h1, h3]; omega
  · intro h
    rw [h (0, 1), h (-1, 0)]
    rfl
theorem mlR_same {l r : List Int} (h : ∀ p, runS l p = runS r p) : mlR l = mlR r := by
  rw [mlR_run, mlR_run, h, h]
theorem set_mid (P : List Int) (a b : Int) (S : List Int) {k : Nat} (hk : k = P.length) : (P ++ a :: S).set k b = P ++ b :: S := by
  subst hk
  simp [List.set_append]
theorem incr_mid (P : List Int) (a : Int) (S : List Int) {k : Nat} (hk : k = P.length) : incr (P ++ a :: S) k = P ++ (a + 1) :: S := by
  subst hk
  unfold incr
  simp [List.set_append, List.getD_eq_getElem?_getD]
theorem put_run {l : List Int} {k : Nat} (h1 : 1 ≤ k) (h2 : k < l.length) (p : Int × Int) : runS (putL l k) p = runS l p := by
  obtain ⟨P, a, b, S, rfl, hk⟩ : ∃ P a b S, l = P ++ a :: b :: S ∧ k = P.length + 1 := by
    refine ⟨l.take (k - 1), l[k - 1], l[k], l.drop (k + 1), ?_, by simp; omega⟩
    have e1 := List.take_append_drop (k - 1) l
    rw [List.drop_eq_getElem_cons (by omega)] at e1
    have e2 : l.drop (k - 1 + 1) = l[k] :: l.drop (k + 1) := by
      simp only [show k - 1 + 1 = k by omega]
      exact List.drop_eq_getElem_cons h2
    rw [e2] at e1
    exact e1.symm
  have e : putL (P ++ a :: b :: S) k = P ++ [a + 1, 1, b + 1] ++ S := by
    subst hk
    unfold putL putB
    rw [show P ++ a :: b :: S = (P ++ [a]) ++ b :: S by simp, List.take_left' (by simp), List.drop_left' (by simp),
      show P ++ [a] ++ [1] ++ b :: S = P ++ a :: (1 :: b :: S) by simp, incr_mid P a _ (by simp), show P ++ (a + 1) :: 1 :: b :: S = (P ++ [a + 1, 1]) ++ b :: S by simp, incr_mid _ b _ (by simp)]
    simp
  rw [e, runS_app, runS_app, ear_run, show P ++ a :: b :: S = P ++ [a, b] ++ S by simp, runS_app, runS_app]
  simp only [Int.add_sub_cancel]
theorem put_mlR {l : List Int} {k : Nat} (h1 : 1 ≤ k) (h2 : k < l.length) : mlR (putL l k) = mlR l := mlR_same (put_run h1 h2)

/-- what MatrixOfList tells -/
def mlA (l : List Int) : M4 := if good l = true then (mlR l).fit else M4.zero
def mlK (l : List Int) : Bool := good l && (mlR l).ok
theorem mlK_iff {l : List Int} : mlK l = true ↔ good l = true ∧ (mlR l).ok = true := by unfold mlK; simp
theorem mlA_yes {l : List Int} (h : mlK l = true) : mlA l = mlR l := by
  obtain ⟨h1, h2⟩ := mlK_iff.1 h
  unfold mlA
  rw [if_pos h1, M4.fit_yes h2]
/-- what ClosesUp tells -/
def clB (l : List Int) : Bool := good l && (mlR l).eqB ⟨-1, 0, 0, -1⟩
theorem clB_iff {l : List Int} : clB l = true ↔ good l = true ∧ NegL l := by unfold clB; rw [Bool.and_eq_true, closes_neg]
theorem good_of {l r : List Int} (h : good l = true) (hl : r.length = l.length) (hm : ∀ x ∈ r, x ∈ l) : good r = true := by
  have hs := good_small h
  obtain ⟨h1, _⟩ := good_iff.1 h
  refine good_iff.2 ⟨by omega, fun i hi => ?_⟩
  have e : r.getD i 0 = r[i] := by simp [List.getD_eq_getElem?_getD, hi]
  rw [e]
  exact hs _ (hm _ (List.getElem_mem hi))
theorem clB_turned {l : List Int} (h : clB l = true) (h0 : 0 < l.length) : clB (l.drop 1 ++ [l.getD 0 0]) = true := by
  obtain ⟨h1, h2⟩ := clB_iff.1 h
  cases l with
  | nil => simp at h0
  | cons a r => exact clB_iff.2 ⟨good_of h1 (by simp) (by simp; exact fun x hx => hx.symm), by simpa using neg_rot1 h2⟩
theorem clB_back {l : List Int} (h : clB l = true) : clB l.reverse = true := by
  obtain ⟨h1, h2⟩ := clB_iff.1 h
  exact clB_iff.2 ⟨good_of h1 (by simp) (by simp), neg_back h2⟩
theorem clB_isQ {l : List Int} (hg : good l = true) (h : isQ l = true) : clB l = true := clB_iff.2 ⟨hg, isQ_neg h⟩
/-- the sum -/
def sumI : List Int → Int
  | [] => 0
  | a :: r => a + sumI r
theorem sm3_sum : ∀ l : List Int, sm3 l = 3 * (l.length : Int) - sumI l
  | [] => rfl
  | a :: r => by
    have := sm3_sum r
    simp only [sm3, sumI, List.length_cons, this]
    omega
theorem isQ_clB {l : List Int} (h3 : 3 ≤ l.length) (hp : ∀ x ∈ l, 1 ≤ x) (h : clB l = true) (hs : sumI l = 3 * (l.length : Int) - 6) : isQ l = true := by
  obtain ⟨h1, h2⟩ := clB_iff.1 h
  obtain ⟨h4, _⟩ := good_iff.1 h1
  exact cc_isQ h3 (by omega) hp h2 (by rw [sm3_sum]; omega)
theorem sumI_take (l : List Int) (k : Nat) (h : k < l.length) : sumI (l.take (k + 1)) = sumI (l.take k) + l.getD k 0 := by
  rw [take_snoc' l k h]
  have : ∀ (u : List Int) (x : Int), sumI (u ++ [x]) = sumI u + x := by
    intro u x
    induction u with
    | nil => simp [sumI]
    | cons a u ih => simp only [List.cons_append, sumI, ih]; omega
  exact this _ _
theorem sumI_bd {l : List Int} (h : Small l) : ∀ k, k ≤ l.length → -(30 * (k : Int)) ≤ sumI (l.take k) ∧ sumI (l.take k) ≤ 30 * (k : Int) := by
  intro k
  induction k with
  | zero => intro _; simp [sumI]
  | succ k ih =>
    intro hk
    have := ih (by omega)
    have hx := h.get k (by omega)
    rw [sumI_take l k (by omega)]
    omega
end Go.Proofs.Ytnoddecligmjbaa

/- MlW: MatrixOfList and ClosesUp: both contracts, and the laws' walks. -/
namespace Go.Proofs.Ytnoddecligmjbaa
open Go.RowKit

theorem spec_MatrixOfList_no (A : Option Addr) (c B : Nat) (l : List Int) (w : World) (hg : good l = false) (h : SlI w B A l) (hB : B ≤ w.heap.size) (hl : l.length ≤ 1048576) :
    Calls Try.prog 89 #[.slice A l.length c] w fun e w' => e = .returned (.tuple #[.agg #[.int .i64 0, .int .i64 0, .int .i64 0, .int .i64 0], .bool false]) ∧ Below w.heap.size w w' := by
  have hc := spec_ctGood A _ c B l _ rfl (h.below ((Below.refl B w).alloc hB (.cells #[.int .i64 0, .int .i64 0, .int .i64 0, .int .i64 0] 76))) hl
  rw [hg] at hc
  have Hc := Lib.hid hc
  clear hc hg h
  go_enter Try.func89, Try.ntmps89
  go_wp2_with fail
  refine Hc.out.mono ?_
  rintro e w1 ⟨rfl, rfl⟩
  have hd : Below w.heap.size w (w.alloc (.cells #[.int .i64 0, .int .i64 0, .int .i64 0, .int .i64 0] 76)) := (Below.refl _ _).alloc (Nat.le_refl _) _
  clear Hc
  go_wp2
  exact bodyPost_ret (v := .tuple #[.agg #[.int .i64 0, .int .i64 0, .int .i64 0, .int .i64 0], .bool false]) (by simp [results, Try.results89, go_sem]) rfl ⟨rfl, by first | exact hd | exact below_set4 hd (Nat.le_refl _)⟩
set_option maxHeartbeats 800000 in
theorem spec_MatrixOfList_yes (A : Option Addr) (c B : Nat) (l : List Int) (w : World) (hg : good l = true) (h : SlI w B A l) (hB : B ≤ w.heap.size) (hl : l.length ≤ 1048576) (hlc : l.length ≤ c) :
    Calls Try.prog 89 #[.slice A l.length c] w (RetMx (mlR l) w) := by
  have hs := h.below ((Below.refl B w).alloc hB (.cells #[.int .i64 0, .int .i64 0, .int .i64 0, .int .i64 0] 76))
  have hc := spec_ctGood A _ c B l _ rfl hs hl
  rw [hg] at hc
  have Hc := Lib.hid hc
  have Hl := Lib.hid (spec_mxList A _ c B l _ rfl (hs) (by simp; omega) (good_small hg) (good_iff.1 hg).1 hlc)
  generalize mlR l = R at *
  obtain ⟨okm, hok⟩ : ∃ x, R.ok = x := ⟨_, rfl⟩
  obtain ⟨F, hF⟩ : ∃ x, R.fit = x := ⟨_, rfl⟩
  have Hm := Lib.hid (fun w => spec_mxIf_as R F okm hF hok w)
  have HE := Lib.hid (fun w' (hb : Below w.heap.size w w') => retMx_any (m := R) hb)
  rw [hF, hok] at HE
  clear hF hok hc hg h hs hl hlc
  go_enter Try.func89, Try.ntmps89
  go_wp2_with fail
  refine Hc.out.mono ?_
  rintro e w1 ⟨rfl, rfl⟩
  go_wp2_with fail
  refine Hl.out.mono ?_
  rintro e w2 ⟨rfl, hb2⟩
  have R0 := (Zb.new w 76).kept hb2
  have hd := ((Below.refl w.heap.size w).alloc (Nat.le_refl _) _).trans (hb2.mono (by simp))
  clear hb2 Hc Hl
  have yz := R0.1.lt
  go_wp2_with fail
  refine (Hm.out _).mono ?_
  rintro e w3 ⟨rfl, hb3⟩
  obtain ⟨⟨z0, z1, z2, z3⟩, ⟨f0, f1, f2, f3⟩⟩ := R0.kept hb3
  replace hd := below_kept hd (Nat.le_refl _) hb3
  clear hb3 Hm
  have hE := Lib.hid (below_set4 (g := w.heap.size) (x0 := .int .i64 F.a) (x1 := .int .i64 F.b) (x2 := .int .i64 F.c) (x3 := .int .i64 F.d) hd (Nat.le_refl _))
  go_wp2
  refine bodyPost_ret (v := .tuple #[.agg #[.int .i64 F.a, .int .i64 F.b, .int .i64 F.c, .int .i64 F.d], .bool okm]) ?hr rfl ?hR
  case hr => simp [results, Try.results89, go_sem, z0, z1, z2, z3]
  case hR => exact HE.out _ hE.out
theorem spec_ClosesUp_no (A : Option Addr) (c B : Nat) (l : List Int) (w : World) (hg : good l = false) (h : SlI w B A l) (hl : l.length ≤ 1048576) :
    Calls Try.prog 93 #[.slice A l.length c] w fun e w' => e = .returned (.tuple #[.bool false, .bool false]) ∧ Below w.heap.size w w' := by
  have hc := spec_ctGood A _ c B l w rfl h hl
  rw [hg] at hc
  have Hc := Lib.hid hc
  clear hc hg h
  have hE := Lib.hid (Below.refl w.heap.size w)
  go_enter Try.func93, Try.ntmps93
  go_wp2_with fail
  refine Hc.out.mono ?_
  rintro e w1 ⟨rfl, rfl⟩
  clear Hc
  go_wp2
  go_ret2
  exact ⟨rfl, hE.out⟩
set_option maxHeartbeats 800000 in
theorem spec_ClosesUp_yes (A : Option Addr) (c B : Nat) (l : List Int) (w : World) (hg : good l = true) (h : SlI w B A l) (hB : B ≤ w.heap.size) (hl : l.length ≤ 1048576) (hlc : l.length ≤ c) :
    Calls Try.prog 93 #[.slice A l.length c] w fun e w' => e = .returned (.tuple #[.bool ((mlR l).eqB ⟨-1, 0, 0, -1⟩), .bool true]) ∧ Below w.heap.size w w' := by
  have hc := spec_ctGood A _ c B l w rfl h hl
  rw [hg] at hc
  have Hc := Lib.hid hc
  have Hl := Lib.hid (spec_mxList A _ c B l _ rfl (h) (hB) (good_small hg) (good_iff.1 hg).1 hlc)
  generalize mlR l = R at *
  obtain ⟨p, q, r, s⟩ := R
  have hrun := run_mx_eq p q r s (-1) 0 0 (-1)
  generalize M4.eqB ⟨p, q, r, s⟩ ⟨-1, 0, 0, -1⟩ = bq at *
  clear hc hg h hl hlc
  go_enter Try.func93, Try.ntmps93
  go_wp2_with fail
  refine Hc.out.mono ?_
  rintro e w1 ⟨rfl, rfl⟩
  go_wp2_with fail
  refine Hl.out.mono ?_
  rintro e w2 ⟨rfl, hb2⟩
  have hE := Lib.hid hb2
  clear hb2 Hc Hl
  go_wp2
  go_ret2
  exact ⟨rfl, hE.out⟩
theorem impl_MatrixOfList_no (A : Option Addr) (c B : Nat) (l : List Int) (w : World) (hg : good l = false) (h : SlI w B A l) (hB : B ≤ w.heap.size) (hl : l.length ≤ 1048576) :
    Calls Try.prog 88 #[.slice A l.length c] w fun e w' => e = .returned (.tuple #[.agg #[.int .i64 0, .int .i64 0, .int .i64 0, .int .i64 0], .bool false]) ∧ Below w.heap.size w w' := by
  have hc := impl_IsTermList A _ c B l _ rfl (h.below ((Below.refl B w).alloc hB (.cells #[.int .i64 0, .int .i64 0, .int .i64 0, .int .i64 0] 76))) hl
  rw [hg] at hc
  have Hc := Lib.hid hc
  clear hc hg h
  go_enter Try.func88, Try.ntmps88
  go_wp2_with fail
  refine Hc.out.mono ?_
  rintro e w1 ⟨rfl, rfl⟩
  have hd : Below w.heap.size w (w.alloc (.cells #[.int .i64 0, .int .i64 0, .int .i64 0, .int .i64 0] 76)) := (Below.refl _ _).alloc (Nat.le_refl _) _
  clear Hc
  go_wp2
  exact bodyPost_ret (v := .tuple #[.agg #[.int .i64 0, .int .i64 0, .int .i64 0, .int .i64 0], .bool false]) (by simp [results, Try.results88, go_sem]) rfl ⟨rfl, by first | exact hd | exact below_set4 hd (Nat.le_refl _)⟩
set_option maxHeartbeats 800000 in
theorem impl_MatrixOfList_yes (A : Option Addr) (c B : Nat) (l : List Int) (w : World) (hg : good l = true) (h : SlI w B A l) (hB : B ≤ w.heap.size) (hl : l.length ≤ 1048576) (hlc : l.length ≤ c) :
    Calls Try.prog 88 #[.slice A l.length c] w (RetMx (mlR l) w) := by
  have hs := h.below ((Below.refl B w).alloc hB (.cells #[.int .i64 0, .int .i64 0, .int .i64 0, .int .i64 0] 76))
  have hc := impl_IsTermList A _ c B l _ rfl hs hl
  rw [hg] at hc
  have Hc := Lib.hid hc
  have Hl := Lib.hid (impl_squareOfTerms A _ c B l _ rfl (hs) (by simp; omega) (good_small hg) (good_iff.1 hg).1)
  generalize mlR l = R at *
  obtain ⟨okm, hok⟩ : ∃ x, R.ok = x := ⟨_, rfl⟩
  obtain ⟨F, hF⟩ : ∃ x, R.fit = x := ⟨_, rfl⟩
  have Hm := Lib.hid (fun w => impl_matrixOf_as R F okm hF hok w)
  have HE := Lib.hid (fun w' (hb : Below w.heap.size w w') => retMx_any (m := R) hb)
  rw [hF, hok] at HE
  clear hF hok hc hg h hs hl hlc
  go_enter Try.func88, Try.ntmps88
  go_wp2_with fail
  refine Hc.out.mono ?_
  rintro e w1 ⟨rfl, rfl⟩
  go_wp2_with fail
  refine Hl.out.mono ?_
  rintro e w2 ⟨rfl, hb2⟩
  have R0 := (Zb.new w 76).kept hb2
  have hd := ((Below.refl w.heap.size w).alloc (Nat.le_refl _) _).trans (hb2.mono (by simp))
  clear hb2 Hc Hl
  have yz := R0.1.lt
  go_wp2_with fail
  refine (Hm.out _).mono ?_
  rintro e w3 ⟨rfl, hb3⟩
  obtain ⟨⟨z0, z1, z2, z3⟩, ⟨f0, f1, f2, f3⟩⟩ := R0.kept hb3
  replace hd := below_kept hd (Nat.le_refl _) hb3
  clear hb3 Hm
  have hE := Lib.hid (below_set4 (g := w.heap.size) (x0 := .int .i64 F.a) (x1 := .int .i64 F.b) (x2 := .int .i64 F.c) (x3 := .int .i64 F.d) hd (Nat.le_refl _))
  go_wp2
  refine bodyPost_ret (v := .tuple #[.agg #[.int .i64 F.a, .int .i64 F.b, .int .i64 F.c, .int .i64 F.d], .bool okm]) ?hr rfl ?hR
  case hr => simp [results, Try.results88, go_sem, z0, z1, z2, z3]
  case hR => exact HE.out _ hE.out
theorem impl_ClosesUp_no (A : Option Addr) (c B : Nat) (l : List Int) (w : World) (hg : good l = false) (h : SlI w B A l) (hl : l.length ≤ 1048576) :
    Calls Try.prog 92 #[.slice A l.length c] w fun e w' => e = .returned (.tuple #[.bool false, .bool false]) ∧ Below w.heap.size w w' := by
  have hc := impl_IsTermList A _ c B l w rfl h hl
  rw [hg] at hc
  have Hc := Lib.hid hc
  clear hc hg h
  have hE := Lib.hid (Below.refl w.heap.size w)
  go_enter Try.func92, Try.ntmps92
  go_wp2_with fail
  refine Hc.out.mono ?_
  rintro e w1 ⟨rfl, rfl⟩
  clear Hc
  go_wp2
  go_ret2
  exact ⟨rfl, hE.out⟩
set_option maxHeartbeats 800000 in
theorem impl_ClosesUp_yes (A : Option Addr) (c B : Nat) (l : List Int) (w : World) (hg : good l = true) (h : SlI w B A l) (hB : B ≤ w.heap.size) (hl : l.length ≤ 1048576) (hlc : l.length ≤ c) :
    Calls Try.prog 92 #[.slice A l.length c] w fun e w' => e = .returned (.tuple #[.bool ((mlR l).eqB ⟨-1, 0, 0, -1⟩), .bool true]) ∧ Below w.heap.size w w' := by
  have hc := impl_IsTermList A _ c B l w rfl h hl
  rw [hg] at hc
  have Hc := Lib.hid hc
  have Hl := Lib.hid (impl_squareOfTerms A _ c B l _ rfl (h) (hB) (good_small hg) (good_iff.1 hg).1)
  generalize mlR l = R at *
  obtain ⟨p, q, r, s⟩ := R
  have hrun := run_sq_eq p q r s (-1) 0 0 (-1)
  generalize M4.eqB ⟨p, q, r, s⟩ ⟨-1, 0, 0, -1⟩ = bq at *
  clear hc hg h hl hlc
  go_enter Try.func92, Try.ntmps92
  go_wp2_with fail
  refine Hc.out.mono ?_
  rintro e w1 ⟨rfl, rfl⟩
  go_wp2_with fail
  refine Hl.out.mono ?_
  rintro e w2 ⟨rfl, hb2⟩
  have hE := Lib.hid hb2
  clear hb2 Hc Hl
  go_wp2
  go_ret2
  exact ⟨rfl, hE.out⟩
end Go.Proofs.Ytnoddecligmjbaa

/- PutT: The model's ctTake. -/
namespace Go.Proofs.Ytnoddecligmjbaa
open Go.RowKit
set_option maxRecDepth 100000 in
set_option maxHeartbeats 6400000 in
theorem spec_ctTake (A : Option Addr) (n c B : Nat) (l : List Int) (k : Nat) (w : World) (hn : l.length = n) (h : SlI w B A l) (hB : B ≤ w.heap.size) (hsm : Small l) (hl : n ≤ 10) (hlc : n ≤ c) (hk1 : 1 ≤ k) (hk2 : k + 1 < n) :
    Calls Try.prog 138 #[.slice A n c, .int .i64 k] w (RetI w (takL l k) (good (takL l k))) := by
  obtain ⟨b', off, rfl, hbB, hc⟩ := h (by omega)
  obtain ⟨N, hN⟩ : ∃ N, N = n - 1 := ⟨_, rfl⟩
  have H := Lib.hid h
  have HBs := Lib.hid (takB_small hsm k)
  have HBl : Hid ((takB l k).length = N) := Lib.hid (by rw [takB_length l k (by omega), hn, hN])
  have HT : Hid ((l.take k).length = k) := Lib.hid (by simp; omega)
  have HD : Hid ((l.drop (k + 1)).length = n - (k + 1)) := Lib.hid (by simp; omega)
  have HN : Hid (N = k + (n - (k + 1))) := Lib.hid (by omega)
  have k0 : (0 : Int) ≤ (k : Int) := by omega
  have k1 : (k : Int) ≤ (c : Int) := by omega
  have k2 : (0 : Int) ≤ (k : Int) + 1 := by omega
  have k3 : (k : Int) + 1 ≤ (n : Int) := by omega
  have k4 : (n : Int) ≤ (c : Int) := by omega
  have k5 : ¬ c = k + 1 := by omega
  have k6 : k ≤ 1000000 := by omega
  have k7 : n - (k + 1) ≤ 1000000 := by omega
  have Hk1 := Lib.hid hk1
  have Hk2 := Lib.hid hk2
  have hNa : N + 1 ≤ n := by omega
  have hNb : n ≤ N + 1 := by omega
  have Hl := Lib.hid hl
  clear hc h hsm hn hN
  go_enter Try.func138, Try.ntmps138
  go_wp2
  have hpw : IntKind.i64.wrap ((k : Int) + 1) = (k : Int) + 1 := IntWalk.i64_in _ (by omega)
  have hpn : ((k : Int) + 1).toNat = k + 1 := by omega
  go_region_held3 (fun w' => Below w.heap.size w w')
    (first
      | assumption
      | exact (Below.refl _ _).drew
      | exact b6
      | exact below_kept (Below.refl _ _).drew (Nat.le_refl _) b6
      | (refine below_grown ?_ g7 (Nat.le_refl _) (fun j hj => (o6.lt j hj).1); assumption))
    (first
      | (refine step_ownP w.drew rfl _ rfl (some ⟨b', off, none⟩) k _ B (l.take k) rfl HT.out (H.out.take k).drw hB k6 ?_; intro A6 c6 w6 o6 b6)
      | (refine step_appendNI _ rfl _ _ rfl w.heap.size (.slice A6 k c6) k (l.take k) HT.out rfl o6 _ (n - (k + 1)) _ (l.drop (k + 1)) B N ?_ rfl HD.out ?_ ?_ ?_ b6.size ?_
         · exact HN.out
         · exact ((H.out.cutAt (k + 1)).drw.below (b6.mono hB))
         · exact k6
         · exact k7
         intro A7 c7 w7 o7 g7))
  rename_i hS7
  have hk1 := Hk1.out
  have hk2 := Hk2.out
  have hl := Hl.out
  rw [show l.take k ++ l.drop (k + 1) = takB l k from rfl] at o7
  have Hb7 := Lib.hid hS7
  clear hS7 g7 o6 b6 hpw hpn H
  obtain ⟨gl, cap0, hv, hgl, _⟩ := o7.form (by omega)
  cases hv
  have x1 := HBs.out.get (k - 1) (by rw [HBl.out]; omega)
  have x2 := HBs.out.get (k) (by rw [HBl.out]; omega)
  have hfd : takL l k = decr (decr (takB l k) (k - 1)) (k) := rfl
  have hg2 : (decr (takB l k) (k - 1)).getD (k) 0 = (takB l k).getD (k) 0 := by unfold decr; exact set_get _ _ _ _ (by omega)
  have HFl : Hid ((takL l k).length = N) := Lib.hid (by rw [hfd, decr_length, decr_length, HBl.out])
  have Hfd := Lib.hid hfd
  generalize takB l k = L0 at *
  have ca : w7.cell? ⟨gl, k - 1, none⟩ = some (.int .i64 (L0.getD (k - 1) 0)) := by rw [o7.cellAt _ (by omega), ics_get _ _ (by rw [HBl.out]; omega)]
  have fa := o7.frozenAt (k - 1)
  obtain ⟨o8, g8⟩ := o7.stored (k - 1) (.int .i64 (L0.getD (k - 1) 0 - 1))
  rw [ics_set, show L0.set (k - 1) (L0.getD (k - 1) 0 - 1) = decr L0 (k - 1) from rfl] at o8
  have cb : (w7.setCell ⟨gl, k - 1, none⟩ (.int .i64 (L0.getD (k - 1) 0 - 1))).cell? ⟨gl, k, none⟩ = some (.int .i64 (L0.getD (k) 0)) := by rw [o8.cellAt _ (by omega), ics_get _ _ (by rw [decr_length, HBl.out]; omega), hg2]
  have fb := o8.frozenAt (k)
  obtain ⟨o9, g9⟩ := o8.stored (k) (.int .i64 (L0.getD (k) 0 - 1))
  rw [ics_set, show (decr L0 (k - 1)).set (k) (L0.getD (k) 0 - 1) = decr (decr L0 (k - 1)) (k) by rw [← hg2]; rfl, ← Hfd.out] at o9
  have b8 := below_grown Hb7.out g8 (Nat.le_refl _) (fun k hk => by injection hk with hk; omega)
  have b9 := below_grown b8 g9 (Nat.le_refl _) (fun k hk => by injection hk with hk; omega)
  obtain ⟨W9, hW9⟩ : ∃ W9, W9 = (w7.setCell ⟨gl, k - 1, none⟩ (.int .i64 (L0.getD (k - 1) 0 - 1))).setCell ⟨gl, k, none⟩ (.int .i64 (L0.getD (k) 0 - 1)) := ⟨_, rfl⟩
  rw [← hW9] at o9 b9
  have HW9 := Lib.hid hW9
  have O9 := Lib.hid o9
  have B9 := Lib.hid b9
  obtain ⟨_, _⟩ := x1
  obtain ⟨_, _⟩ := x2
  clear o7 o8 o9 g8 g9 b8 b9 hW9 hg2 hfd hgl Hb7
  generalize L0.getD (k - 1) 0 = xa at *
  generalize L0.getD (k) 0 = xb at *
  have i0 : (0 : Int) ≤ (k : Int) - 1 := by omega
  have i1 : (k : Int) - 1 < (N : Int) := by omega
  have j0 : (0 : Int) ≤ (k : Int) := by omega
  have j1 : (k : Int) < (N : Int) := by omega
  have e0 : (1 : Int) ≤ (k : Int) := by omega
  have e1 : (k : Int) ≤ (N : Int) := by omega
  have e2 : (k : Int) < (N : Int) + 1 := by omega
  have e3 : k ≤ N := by omega
  have e4 : 1 ≤ k := by omega
  have it : ((k : Int) - 1).toNat = k - 1 := by omega
  have jt : ((k : Int)).toNat = k := by omega
  go_wp2_with fail
  rw [← HW9.out]
  clear HW9 ca cb fa fb it jt
  refine (spec_ctGood _ N _ _ (takL l k) _ HFl.out (SlI.of_own O9.out) (by omega)).mono ?_
  rintro e w10 ⟨rfl, rfl⟩
  have hE : RetI w (takL l k) (good (takL l k)) (.returned (.tuple #[.slice (some ⟨gl, 0, none⟩) N c7, .bool (good (takL l k))])) W9 := ⟨_, _, by rw [HFl.out], by rw [HFl.out]; exact O9.out, B9.out⟩
  have HE := Lib.hid hE
  clear hE O9
  generalize good (takL l k) = gd at *
  go_wp2
  go_ret2
  exact HE.out
end Go.Proofs.Ytnoddecligmjbaa

/- PutU: The program's TakeOne. -/
namespace Go.Proofs.Ytnoddecligmjbaa
open Go.RowKit
set_option maxRecDepth 100000 in
set_option maxHeartbeats 6400000 in
theorem impl_TakeOne (A : Option Addr) (n c B : Nat) (l : List Int) (i : Int) (w : World) (hn : l.length = n) (h : SlI w B A l) (hB : B ≤ w.heap.size) (hl : n ≤ 1048576) (hlc : n ≤ c) :
    Calls Try.prog 71 #[.slice A n c, .int .i64 i] w (RetI w (optL (toR l i)) (toR l i).isSome) := by
  have Hn := Lib.hid hn
  go_enter Try.func71, Try.ntmps71
  go_wp2_with fail
  refine (impl_IsTermList A _ c B l _ Hn.out h hl).mono ?_
  rintro e w1 ⟨rfl, rfl⟩
  cases hg : good l
  · have HE := Lib.hid (retO_no (R := toR l i) (w := w) (toR_no1 hg) (Below.refl _ _))
    clear h hn hg
    go_wp2
    go_ret2
    exact HE.out
  · have h10 := (good_iff.1 hg).1
    by_cases h1 : i < 1
    · have HE := Lib.hid (retO_no (R := toR l i) (w := w) (toR_no2 (by omega)) (Below.refl _ _))
      clear h hn hg
      go_wp2
      go_ret2
      exact HE.out
    · by_cases h2 : (n : Int) - 1 ≤ i
      · have HE := Lib.hid (retO_no (R := toR l i) (w := w) (toR_no2 (by omega)) (Below.refl _ _))
        clear h hn hg
        go_wp2
        go_ret2
        exact HE.out
      · obtain ⟨k, rfl⟩ := Int.eq_ofNat_of_zero_le (show 0 ≤ i by omega)
        obtain ⟨b', off, rfl, hbB, hc⟩ := h (by omega)
        have g0 := hc k (by omega)
        have i0 : (0 : Int) ≤ (k : Int) := by omega
        have i1 : (k : Int) < (n : Int) := by omega
        have n10 : n ≤ 10 := by omega
        have hk1 : 1 ≤ k := by omega
        have hk2 : k + 1 < n := by omega
        by_cases hx : l.getD k 0 = 1
        · have Hat := Lib.hid (toR_at hg hk1 (by omega) hx)
          have hsm := good_small hg
          obtain ⟨N, hN⟩ : ∃ N, N = n - 1 := ⟨_, rfl⟩
          have H := Lib.hid h
          have HBs := Lib.hid (takB_small hsm k)
          have HBl : Hid ((takB l k).length = N) := Lib.hid (by rw [takB_length l k (by omega), hn, hN])
          have HT : Hid ((l.take k).length = k) := Lib.hid (by simp; omega)
          have HD : Hid ((l.drop (k + 1)).length = n - (k + 1)) := Lib.hid (by simp; omega)
          have HN : Hid (N = k + (n - (k + 1))) := Lib.hid (by omega)
          rw [hx] at g0
          have k1 : (k : Int) ≤ (c : Int) := by omega
          have k2 : (0 : Int) ≤ (k : Int) + 1 := by omega
          have k3 : (k : Int) + 1 ≤ (n : Int) := by omega
          have k4 : (n : Int) ≤ (c : Int) := by omega
          have k5 : ¬ c = k + 1 := by omega
          have k6 : 0 < k := by omega
          have k7 : 0 < n - (k + 1) := by omega
          have k8 : N ≤ 1000000 := by omega
          have Hk1 := Lib.hid hk1
          have Hk2 := Lib.hid hk2
          have hNa : N + 1 ≤ n := by omega
          have hNb : n ≤ N + 1 := by omega
          have Hl := Lib.hid n10
          clear hc h hsm hn hN hg hx h10
          go_wp2
          have hpw : IntKind.i64.wrap ((k : Int) + 1) = (k : Int) + 1 := IntWalk.i64_in _ (by omega)
          have hpn : ((k : Int) + 1).toNat = k + 1 := by omega
          clear g0
          go_region_held3 (fun w' => Below w.heap.size w w')
            (first
              | assumption
              | exact (Below.refl _ _).drew
              | exact (below_grown (Below.refl _ _).drew g7 (Nat.le_refl _) (fun j hj => by cases hj)))
            (first
              | (refine step_growI w.drew rfl _ _ rfl (some ⟨b', off, none⟩) k B (l.take k) HT.out k6 rfl (H.out.take k).drw (some ⟨b', off + (k + 1), none⟩) (n - (k + 1)) _ B N (l.drop (k + 1)) HN.out HD.out k7 rfl (H.out.cutAt (k + 1)).drw k8 ?_; intro A7 c7 w7 o7 g7))
          rename_i hS7
          have hk1 := Hk1.out
          have hk2 := Hk2.out
          have hl := Hl.out
          rw [show l.take k ++ l.drop (k + 1) = takB l k from rfl] at o7
          replace o7 := o7.mono (show w.heap.size ≤ w.drew.heap.size from Nat.le_refl _)
          have Hb7 := Lib.hid hS7
          clear hS7 g7 hpw hpn H
          obtain ⟨gl, cap0, hv, hgl, _⟩ := o7.form (by omega)
          cases hv
          have x1 := HBs.out.get (k - 1) (by rw [HBl.out]; omega)
          have x2 := HBs.out.get (k) (by rw [HBl.out]; omega)
          have hfd : takL l k = decr (decr (takB l k) (k - 1)) (k) := rfl
          have hg2 : (decr (takB l k) (k - 1)).getD (k) 0 = (takB l k).getD (k) 0 := by unfold decr; exact set_get _ _ _ _ (by omega)
          have HFl : Hid ((takL l k).length = N) := Lib.hid (by rw [hfd, decr_length, decr_length, HBl.out])
          have Hfd := Lib.hid hfd
          generalize takB l k = L0 at *
          have ca : w7.cell? ⟨gl, k - 1, none⟩ = some (.int .i64 (L0.getD (k - 1) 0)) := by rw [o7.cellAt _ (by omega), ics_get _ _ (by rw [HBl.out]; omega)]
          have fa := o7.frozenAt (k - 1)
          obtain ⟨o8, g8⟩ := o7.stored (k - 1) (.int .i64 (L0.getD (k - 1) 0 - 1))
          rw [ics_set, show L0.set (k - 1) (L0.getD (k - 1) 0 - 1) = decr L0 (k - 1) from rfl] at o8
          have cb : (w7.setCell ⟨gl, k - 1, none⟩ (.int .i64 (L0.getD (k - 1) 0 - 1))).cell? ⟨gl, k, none⟩ = some (.int .i64 (L0.getD (k) 0)) := by rw [o8.cellAt _ (by omega), ics_get _ _ (by rw [decr_length, HBl.out]; omega), hg2]
          have fb := o8.frozenAt (k)
          obtain ⟨o9, g9⟩ := o8.stored (k) (.int .i64 (L0.getD (k) 0 - 1))
          rw [ics_set, show (decr L0 (k - 1)).set (k) (L0.getD (k) 0 - 1) = decr (decr L0 (k - 1)) (k) by rw [← hg2]; rfl, ← Hfd.out] at o9
          have b8 := below_grown Hb7.out g8 (Nat.le_refl _) (fun k hk => by injection hk with hk; omega)
          have b9 := below_grown b8 g9 (Nat.le_refl _) (fun k hk => by injection hk with hk; omega)
          obtain ⟨W9, hW9⟩ : ∃ W9, W9 = (w7.setCell ⟨gl, k - 1, none⟩ (.int .i64 (L0.getD (k - 1) 0 - 1))).setCell ⟨gl, k, none⟩ (.int .i64 (L0.getD (k) 0 - 1)) := ⟨_, rfl⟩
          rw [← hW9] at o9 b9
          have HW9 := Lib.hid hW9
          have O9 := Lib.hid o9
          have B9 := Lib.hid b9
          obtain ⟨_, _⟩ := x1
          obtain ⟨_, _⟩ := x2
          clear o7 o8 o9 g8 g9 b8 b9 hW9 hg2 hfd hgl Hb7
          generalize L0.getD (k - 1) 0 = xa at *
          generalize L0.getD (k) 0 = xb at *
          have i0 : (0 : Int) ≤ (k : Int) - 1 := by omega
          have i1 : (k : Int) - 1 < (N : Int) := by omega
          have j0 : (0 : Int) ≤ (k : Int) := by omega
          have j1 : (k : Int) < (N : Int) := by omega
          have e0 : (1 : Int) ≤ (k : Int) := by omega
          have e1 : (k : Int) ≤ (N : Int) := by omega
          have e2 : (k : Int) < (N : Int) + 1 := by omega
          have e3 : k ≤ N := by omega
          have e4 : 1 ≤ k := by omega
          have it : ((k : Int) - 1).toNat = k - 1 := by omega
          have jt : ((k : Int)).toNat = k := by omega
          go_wp2_with fail
          rw [← HW9.out]
          clear HW9 ca cb fa fb it jt
          refine (impl_IsTermList _ N _ _ (takL l k) _ HFl.out (SlI.of_own O9.out) (by omega)).mono ?_
          rintro e w10 ⟨rfl, rfl⟩
          cases hg : good (takL l k)
          · have hE := retO_no (w := w) (Hat.out.trans (if_neg (by rw [hg]; simp))) B9.out
            have HE := Lib.hid hE
            clear hE hg O9
            go_wp2
            go_ret2
            exact HE.out
          · have hE := retO_yes (w := w) (Hat.out.trans (if_pos hg)) HFl.out O9.out B9.out
            have HE := Lib.hid hE
            clear hE hg O9
            go_wp2
            go_ret2
            exact HE.out
        · have HE := Lib.hid (retO_no (R := toR l k) (w := w) (toR_no3 hx) (Below.refl _ _))
          have hx' : (l.getD k 0 != 1) = true := by simpa using hx
          generalize l.getD k 0 = x at *
          clear h hn hg hc hx
          go_wp2
          go_ret2
          exact HE.out
end Go.Proofs.Ytnoddecligmjbaa

/- PutW: PutOne, TakeOne: the model's and the program's contracts, and the laws' walks. -/
namespace Go.Proofs.Ytnoddecligmjbaa
open Go.RowKit

theorem inBp_iff {n lo hi : Int} : inB n lo hi = true ↔ lo ≤ n ∧ n ≤ hi := by unfold inB; simp

set_option maxRecDepth 100000 in
set_option maxHeartbeats 6400000 in
theorem spec_PutOne (A : Option Addr) (c B : Nat) (l : List Int) (i : Int) (w : World) (h : SlI w B A l) (hB : B ≤ w.heap.size) (hl : l.length ≤ 1048576) (hlc : l.length ≤ c) :
    Calls Try.prog 70 #[.slice A l.length c, .int .i64 i] w (RetI w (optL (poR l i)) (poR l i).isSome) := by
  obtain ⟨n, hn⟩ : ∃ n, l.length = n := ⟨_, rfl⟩
  rw [hn] at hl hlc ⊢
  have Hn := Lib.hid hn
  go_enter Try.func70, Try.ntmps70
  go_wp2_with fail
  refine (spec_ctGood A _ c B l _ Hn.out h hl).mono ?_
  rintro e w1 ⟨rfl, rfl⟩
  cases hg : good l
  · have HE := Lib.hid (retO_no (R := poR l i) (w := w) (poR_no1 hg) (Below.refl _ _))
    clear h hn hg
    go_wp2
    go_ret2
    exact HE.out
  · have h10 := (good_iff.1 hg).1
    have n10 : n ≤ 10 := by omega
    go_wp2_with fail
    refine (spec_l1In' _ _ _ _).mono ?_
    rintro e w1 ⟨rfl, rfl⟩
    cases hi : inB i 1 ((n : Int) - 1)
    · have HE := Lib.hid (retO_no (R := poR l i) (w := w) (poR_no2 (by rw [hn]; intro e; rw [inBp_iff.2 e] at hi; cases hi)) (Below.refl _ _))
      clear h hn hg hi
      go_wp2
      go_ret2
      exact HE.out
    · obtain ⟨h1, h2⟩ := inBp_iff.1 hi
      clear hi
      obtain ⟨k, rfl⟩ := Int.eq_ofNat_of_zero_le (show 0 ≤ i by omega)
      obtain ⟨b', off, rfl, hbB, hc⟩ := h (by omega)
      have hk1 : 1 ≤ k := by omega
      have hk2 : k < n := by omega
      have Hat := Lib.hid (poR_at hg hk1 (by omega))
      have hsm := good_small hg
      obtain ⟨N, hN⟩ : ∃ N, N = n + 1 := ⟨_, rfl⟩
      have H := Lib.hid h
      have HBs := Lib.hid (putB_small hsm k)
      have HBl : Hid ((putB l k).length = N) := Lib.hid (by rw [putB_length l k (by omega), hn, hN])
      have HT : Hid ((l.take k).length = k) := Lib.hid (by simp; omega)
      have HT1 : Hid ((l.take k ++ [1]).length = k + 1) := Lib.hid (by simp; omega)
      have HD : Hid ((l.drop k).length = n - k) := Lib.hid (by simp; omega)
      have HN : Hid (N = k + 1 + (n - k)) := Lib.hid (by omega)
      have k0 : (0 : Int) ≤ (k : Int) := by omega
      have k1 : (k : Int) ≤ (c : Int) := by omega
      have k3 : (k : Int) ≤ (n : Int) := by omega
      have k4 : (n : Int) ≤ (c : Int) := by omega
      have k5 : ¬ c = k := by omega
      have k6 : 0 < k := by omega
      have k7 : k ≤ 1000000 := by omega
      have k8 : n - k ≤ 1000000 := by omega
      have k9 : k + 1 ≤ 1000000 := by omega
      have Hk1 := Lib.hid hk1
      have Hk2 := Lib.hid hk2
      have hNa : n + 1 ≤ N := by omega
      have hNb : N ≤ n + 1 := by omega
      have Hl := Lib.hid n10
      clear hc h hsm hn hN hg h10
      go_wp2_with fail
      refine (spec_l1Own_at (some ⟨b', off, none⟩) k c B (l.take k) _ HT.out (H.out.take k) hB (by omega)).mono ?_
      rintro e w2 ⟨A2, c2, rfl, o2, b2⟩
      have own2 := o2.alloc (.cells #[.int .i64 1] 3)
      have hb2 := b2.alloc b2.size (.cells #[.int .i64 1] 3)
      have Hob := Lib.hid o2.lt
      have Hb2 := Lib.hid hb2
      clear hb2 o2 b2
      go_upto_region 5 with (first
        | (at_builtin; refine append1In _ rfl _ _ rfl w.heap.size (.slice A2 k c2) k (l.take k) HT.out rfl own2 w2.heap.size 1 rfl ?c1 ?c2 Hb2.out.size ?_; (case c1 => simp [go_sem]); (case c2 => omega); intro A3 c3 w3 own3 hg3
           have hob3 := Lib.hid own3.lt
           have hb3 := below_grown Hb2.out hg3 (Nat.le_refl _) (fun j hj => (Hob.out j hj).1)
           have Hb3 := Lib.hid hb3
           have Ow3 := Lib.hid own3
           clear hg3 own2 hb3 own3)
        | (at_builtin; refine wpList_appendNI _ rfl _ _ rfl w.heap.size (.slice A3 (k + 1) c3) (k + 1) (l.take k ++ [1]) HT1.out rfl Ow3.out (some ⟨b', off + k, none⟩) (n - k) _ (l.drop k) B N HN.out rfl HD.out ((H.out.cutAt k).below (Hb3.out.mono hB)) k9 k8 Hb3.out.size ?_; intro A7 c7 w7 o7 g7
           have hb7 := below_grown Hb3.out g7 (Nat.le_refl _) (fun j hj => (hob3.out j hj).1)
           have Hb7 := Lib.hid hb7
           rw [show l.take k ++ [1] ++ l.drop k = putB l k from rfl] at o7
           have O7 := Lib.hid o7
           clear hb7 g7 o7 Ow3))
      have o7 := O7.out
      have hk1 := Hk1.out
      have hk2 := Hk2.out
      have hl := Hl.out
      clear O7 H
      obtain ⟨gl, cap0, hv, hgl, _⟩ := o7.form (by omega)
      cases hv
      have x1 := HBs.out.get (k - 1) (by rw [HBl.out]; omega)
      have x2 := HBs.out.get (k + 1) (by rw [HBl.out]; omega)
      have hfd : putL l k = incr (incr (putB l k) (k - 1)) (k + 1) := rfl
      have hg2 : (incr (putB l k) (k - 1)).getD (k + 1) 0 = (putB l k).getD (k + 1) 0 := by unfold incr; exact set_get _ _ _ _ (by omega)
      have HFl : Hid ((putL l k).length = N) := Lib.hid (by rw [hfd, incr_length, incr_length, HBl.out])
      have Hfd := Lib.hid hfd
      generalize putB l k = L0 at *
      have ca : w7.cell? ⟨gl, k - 1, none⟩ = some (.int .i64 (L0.getD (k - 1) 0)) := by rw [o7.cellAt _ (by omega), ics_get _ _ (by rw [HBl.out]; omega)]
      have fa := o7.frozenAt (k - 1)
      obtain ⟨o8, g8⟩ := o7.stored (k - 1) (.int .i64 (L0.getD (k - 1) 0 + 1))
      rw [ics_set, show L0.set (k - 1) (L0.getD (k - 1) 0 + 1) = incr L0 (k - 1) from rfl] at o8
      have cb : (w7.setCell ⟨gl, k - 1, none⟩ (.int .i64 (L0.getD (k - 1) 0 + 1))).cell? ⟨gl, k + 1, none⟩ = some (.int .i64 (L0.getD (k + 1) 0)) := by rw [o8.cellAt _ (by omega), ics_get _ _ (by rw [incr_length, HBl.out]; omega), hg2]
      have fb := o8.frozenAt (k + 1)
      obtain ⟨o9, g9⟩ := o8.stored (k + 1) (.int .i64 (L0.getD (k + 1) 0 + 1))
      rw [ics_set, show (incr L0 (k - 1)).set (k + 1) (L0.getD (k + 1) 0 + 1) = incr (incr L0 (k - 1)) (k + 1) by rw [← hg2]; rfl, ← Hfd.out] at o9
      have b8 := below_grown Hb7.out g8 (Nat.le_refl _) (fun k hk => by injection hk with hk; omega)
      have b9 := below_grown b8 g9 (Nat.le_refl _) (fun k hk => by injection hk with hk; omega)
      obtain ⟨W9, hW9⟩ : ∃ W9, W9 = (w7.setCell ⟨gl, k - 1, none⟩ (.int .i64 (L0.getD (k - 1) 0 + 1))).setCell ⟨gl, k + 1, none⟩ (.int .i64 (L0.getD (k + 1) 0 + 1)) := ⟨_, rfl⟩
      rw [← hW9] at o9 b9
      have HW9 := Lib.hid hW9
      have O9 := Lib.hid o9
      have B9 := Lib.hid b9
      obtain ⟨_, _⟩ := x1
      obtain ⟨_, _⟩ := x2
      clear o7 o8 o9 g8 g9 b8 b9 hW9 hg2 hfd hgl Hb7
      generalize L0.getD (k - 1) 0 = xa at *
      generalize L0.getD (k + 1) 0 = xb at *
      have i0 : (0 : Int) ≤ (k : Int) - 1 := by omega
      have i1 : (k : Int) - 1 < (N : Int) := by omega
      have j0 : (0 : Int) ≤ (k : Int) + 1 := by omega
      have j1 : (k : Int) + 1 < (N : Int) := by omega
      have e0 : (1 : Int) ≤ (k : Int) := by omega
      have e1 : (k : Int) ≤ (N : Int) := by omega
      have e2 : (k : Int) < (N : Int) + 1 := by omega
      have e3 : k ≤ N := by omega
      have e4 : 1 ≤ k := by omega
      have it : ((k : Int) - 1).toNat = k - 1 := by omega
      have jt : ((k : Int) + 1).toNat = k + 1 := by omega
      go_wp2_with fail
      rw [← HW9.out]
      clear HW9 ca cb fa fb it jt
      refine (spec_ctGood _ N _ _ (putL l k) _ HFl.out (SlI.of_own O9.out) (by omega)).mono ?_
      rintro e w10 ⟨rfl, rfl⟩
      cases hg : good (putL l k)
      · have hE := retO_no (w := w) (Hat.out.trans (if_neg (by rw [hg]; simp))) B9.out
        have HE := Lib.hid hE
        clear hE hg O9
        go_wp2
        go_ret2
        exact HE.out
      · have hE := retO_yes (w := w) (Hat.out.trans (if_pos hg)) HFl.out O9.out B9.out
        have HE := Lib.hid hE
        clear hE hg O9
        go_wp2
        go_ret2
        exact HE.out

set_option maxRecDepth 100000 in
set_option maxHeartbeats 6400000 in
theorem impl_PutOne (A : Option Addr) (c B : Nat) (l : List Int) (i : Int) (w : World) (h : SlI w B A l) (hB : B ≤ w.heap.size) (hl : l.length ≤ 1048576) (hlc : l.length ≤ c) :
    Calls Try.prog 69 #[.slice A l.length c, .int .i64 i] w (RetI w (optL (poR l i)) (poR l i).isSome) := by
  obtain ⟨n, hn⟩ : ∃ n, l.length = n := ⟨_, rfl⟩
  rw [hn] at hl hlc ⊢
  have Hn := Lib.hid hn
  go_enter Try.func69, Try.ntmps69
  go_wp2_with fail
  refine (impl_IsTermList A _ c B l _ Hn.out h hl).mono ?_
  rintro e w1 ⟨rfl, rfl⟩
  cases hg : good l
  · have HE := Lib.hid (retO_no (R := poR l i) (w := w) (poR_no1 hg) (Below.refl _ _))
    clear h hn hg
    go_wp2
    go_ret2
    exact HE.out
  · have h10 := (good_iff.1 hg).1
    have n10 : n ≤ 10 := by omega
    by_cases h1 : i < 1
    · have HE := Lib.hid (retO_no (R := poR l i) (w := w) (poR_no2 (by omega)) (Below.refl _ _))
      clear h hn hg
      go_wp2
      go_ret2
      exact HE.out
    · by_cases h2 : (n : Int) ≤ i
      · have HE := Lib.hid (retO_no (R := poR l i) (w := w) (poR_no2 (by omega)) (Below.refl _ _))
        clear h hn hg
        go_wp2
        go_ret2
        exact HE.out
      · skip
        obtain ⟨k, rfl⟩ := Int.eq_ofNat_of_zero_le (show 0 ≤ i by omega)
        obtain ⟨b', off, rfl, hbB, hc⟩ := h (by omega)
        have hk1 : 1 ≤ k := by omega
        have hk2 : k < n := by omega
        have Hat := Lib.hid (poR_at hg hk1 (by omega))
        have hsm := good_small hg
        obtain ⟨N, hN⟩ : ∃ N, N = n + 1 := ⟨_, rfl⟩
        have H := Lib.hid h
        have HBs := Lib.hid (putB_small hsm k)
        have HBl : Hid ((putB l k).length = N) := Lib.hid (by rw [putB_length l k (by omega), hn, hN])
        have HT : Hid ((l.take k).length = k) := Lib.hid (by simp; omega)
        have HT1 : Hid ((l.take k ++ [1]).length = k + 1) := Lib.hid (by simp; omega)
        have HD : Hid ((l.drop k).length = n - k) := Lib.hid (by simp; omega)
        have HN : Hid (N = k + 1 + (n - k)) := Lib.hid (by omega)
        have k0 : (0 : Int) ≤ (k : Int) := by omega
        have k1 : (k : Int) ≤ (c : Int) := by omega
        have k3 : (k : Int) ≤ (n : Int) := by omega
        have k4 : (n : Int) ≤ (c : Int) := by omega
        have k5 : ¬ c = k := by omega
        have k6 : 0 < k := by omega
        have k7 : k ≤ 1000000 := by omega
        have k8 : n - k ≤ 1000000 := by omega
        have k9 : k + 1 ≤ 1000000 := by omega
        have Hk1 := Lib.hid hk1
        have Hk2 := Lib.hid hk2
        have hNa : n + 1 ≤ N := by omega
        have hNb : N ≤ n + 1 := by omega
        have Hl := Lib.hid n10
        clear hc h hsm hn hN hg h10
        have hb2 : Below w.heap.size w (w.alloc (.cells #[.int .i64 1] 3)) := (Below.refl _ _).alloc (Nat.le_refl _) _
        have hs2 := (H.out.take k).below (hb2.mono hB)
        have hc2 : (w.alloc (.cells #[.int .i64 1] 3)).cell? ⟨w.heap.size, 0, none⟩ = some (.int .i64 1) := by simp [go_sem]
        have Hs2 := Lib.hid hs2
        have Hc2 : Hid (SlI (w.alloc (.cells #[.int .i64 1] 3)) (w.heap.size + 1) (some ⟨w.heap.size, 0, none⟩) [1]) := Lib.hid (SlI.cell1 hc2 (by omega))
        have Hb2 := Lib.hid hb2
        clear hb2 hs2 hc2
        go_upto_region 5 with (first
          | (at_builtin; refine wpList_growI _ rfl _ _ rfl (some ⟨b', off, none⟩) k B (l.take k) HT.out k6 rfl Hs2.out (some ⟨w.heap.size, 0, none⟩) 1 1 (w.heap.size + 1) (k + 1) [1] rfl rfl (by decide) rfl Hc2.out k9 ?_; intro A3 c3 w3 own3 hg3
             have own4 := own3.mono Hb2.out.size
             have hob3 := Lib.hid own4.lt
             have hb3 := below_grown Hb2.out hg3 (Nat.le_refl _) (fun j hj => by cases hj)
             have Hb3 := Lib.hid hb3
             have Ow3 := Lib.hid own4
             clear hg3 hb3 own3 own4)
          | (at_builtin; refine wpList_appendNI _ rfl _ _ rfl w.heap.size (.slice A3 (k + 1) c3) (k + 1) (l.take k ++ [1]) HT1.out rfl Ow3.out (some ⟨b', off + k, none⟩) (n - k) _ (l.drop k) B N HN.out rfl HD.out ((H.out.cutAt k).below (Hb3.out.mono hB)) k9 k8 Hb3.out.size ?_; intro A7 c7 w7 o7 g7
             have hb7 := below_grown Hb3.out g7 (Nat.le_refl _) (fun j hj => (hob3.out j hj).1)
             have Hb7 := Lib.hid hb7
             rw [show l.take k ++ [1] ++ l.drop k = putB l k from rfl] at o7
             have O7 := Lib.hid o7
             clear hb7 g7 o7 Ow3))
        have o7 := O7.out
        have hk1 := Hk1.out
        have hk2 := Hk2.out
        have hl := Hl.out
        clear O7 H
        obtain ⟨gl, cap0, hv, hgl, _⟩ := o7.form (by omega)
        cases hv
        have x1 := HBs.out.get (k - 1) (by rw [HBl.out]; omega)
        have x2 := HBs.out.get (k + 1) (by rw [HBl.out]; omega)
        have hfd : putL l k = incr (incr (putB l k) (k - 1)) (k + 1) := rfl
        have hg2 : (incr (putB l k) (k - 1)).getD (k + 1) 0 = (putB l k).getD (k + 1) 0 := by unfold incr; exact set_get _ _ _ _ (by omega)
        have HFl : Hid ((putL l k).length = N) := Lib.hid (by rw [hfd, incr_length, incr_length, HBl.out])
        have Hfd := Lib.hid hfd
        generalize putB l k = L0 at *
        have ca : w7.cell? ⟨gl, k - 1, none⟩ = some (.int .i64 (L0.getD (k - 1) 0)) := by rw [o7.cellAt _ (by omega), ics_get _ _ (by rw [HBl.out]; omega)]
        have fa := o7.frozenAt (k - 1)
        obtain ⟨o8, g8⟩ := o7.stored (k - 1) (.int .i64 (L0.getD (k - 1) 0 + 1))
        rw [ics_set, show L0.set (k - 1) (L0.getD (k - 1) 0 + 1) = incr L0 (k - 1) from rfl] at o8
        have cb : (w7.setCell ⟨gl, k - 1, none⟩ (.int .i64 (L0.getD (k - 1) 0 + 1))).cell? ⟨gl, k + 1, none⟩ = some (.int .i64 (L0.getD (k + 1) 0)) := by rw [o8.cellAt _ (by omega), ics_get _ _ (by rw [incr_length, HBl.out]; omega), hg2]
        have fb := o8.frozenAt (k + 1)
        obtain ⟨o9, g9⟩ := o8.stored (k + 1) (.int .i64 (L0.getD (k + 1) 0 + 1))
        rw [ics_set, show (incr L0 (k - 1)).set (k + 1) (L0.getD (k + 1) 0 + 1) = incr (incr L0 (k - 1)) (k + 1) by rw [← hg2]; rfl, ← Hfd.out] at o9
        have b8 := below_grown Hb7.out g8 (Nat.le_refl _) (fun k hk => by injection hk with hk; omega)
        have b9 := below_grown b8 g9 (Nat.le_refl _) (fun k hk => by injection hk with hk; omega)
        obtain ⟨W9, hW9⟩ : ∃ W9, W9 = (w7.setCell ⟨gl, k - 1, none⟩ (.int .i64 (L0.getD (k - 1) 0 + 1))).setCell ⟨gl, k + 1, none⟩ (.int .i64 (L0.getD (k + 1) 0 + 1)) := ⟨_, rfl⟩
        rw [← hW9] at o9 b9
        have HW9 := Lib.hid hW9
        have O9 := Lib.hid o9
        have B9 := Lib.hid b9
        obtain ⟨_, _⟩ := x1
        obtain ⟨_, _⟩ := x2
        clear o7 o8 o9 g8 g9 b8 b9 hW9 hg2 hfd hgl Hb7
        generalize L0.getD (k - 1) 0 = xa at *
        generalize L0.getD (k + 1) 0 = xb at *
        have i0 : (0 : Int) ≤ (k : Int) - 1 := by omega
        have i1 : (k : Int) - 1 < (N : Int) := by omega
        have j0 : (0 : Int) ≤ (k : Int) + 1 := by omega
        have j1 : (k : Int) + 1 < (N : Int) := by omega
        have e0 : (1 : Int) ≤ (k : Int) := by omega
        have e1 : (k : Int) ≤ (N : Int) := by omega
        have e2 : (k : Int) < (N : Int) + 1 := by omega
        have e3 : k ≤ N := by omega
        have e4 : 1 ≤ k := by omega
        have it : ((k : Int) - 1).toNat = k - 1 := by omega
        have jt : ((k : Int) + 1).toNat = k + 1 := by omega
        go_wp2_with fail
        rw [← HW9.out]
        clear HW9 ca cb fa fb it jt
        refine (impl_IsTermList _ N _ _ (putL l k) _ HFl.out (SlI.of_own O9.out) (by omega)).mono ?_
        rintro e w10 ⟨rfl, rfl⟩
        cases hg : good (putL l k)
        · have hE := retO_no (w := w) (Hat.out.trans (if_neg (by rw [hg]; simp))) B9.out
          have HE := Lib.hid hE
          clear hE hg O9
          go_wp2
          go_ret2
          exact HE.out
        · have hE := retO_yes (w := w) (Hat.out.trans (if_pos hg)) HFl.out O9.out B9.out
          have HE := Lib.hid hE
          clear hE hg O9
          go_wp2
          go_ret2
          exact HE.out

set_option maxRecDepth 100000 in
set_option maxHeartbeats 3200000 in
theorem spec_TakeOne (A : Option Addr) (c B : Nat) (l : List Int) (i : Int) (w : World) (h : SlI w B A l) (hB : B ≤ w.heap.size) (hl : l.length ≤ 1048576) (hlc : l.length ≤ c) :
    Calls Try.prog 73 #[.slice A l.length c, .int .i64 i] w (RetI w (optL (toR l i)) (toR l i).isSome) := by
  obtain ⟨n, hn⟩ : ∃ n, l.length = n := ⟨_, rfl⟩
  rw [hn] at hl hlc ⊢
  have Hn := Lib.hid hn
  go_enter Try.func73, Try.ntmps73
  go_wp2_with fail
  refine (spec_ctGood A _ c B l _ Hn.out h hl).mono ?_
  rintro e w1 ⟨rfl, rfl⟩
  cases hg : good l
  · have HE := Lib.hid (retO_no (R := toR l i) (w := w) (toR_no1 hg) (Below.refl _ _))
    clear h hn hg
    go_wp2
    go_ret2
    exact HE.out
  · have h10 := (good_iff.1 hg).1
    have n10 : n ≤ 10 := by omega
    go_wp2_with fail
    refine (spec_l1In' _ _ _ _).mono ?_
    rintro e w1 ⟨rfl, rfl⟩
    cases hi : inB i 1 ((n : Int) - 2)
    · have HE := Lib.hid (retO_no (R := toR l i) (w := w) (toR_no2 (by rw [hn]; intro e; rw [inBp_iff.2 e] at hi; cases hi)) (Below.refl _ _))
      clear h hn hg hi
      go_wp2
      go_ret2
      exact HE.out
    · obtain ⟨h1, h2⟩ := inBp_iff.1 hi
      clear hi
      obtain ⟨k, rfl⟩ := Int.eq_ofNat_of_zero_le (show 0 ≤ i by omega)
      obtain ⟨b', off, rfl, hbB, hc⟩ := h (by omega)
      have g0 := hc k (by omega)
      have hk1 : 1 ≤ k := by omega
      have hk2 : k + 1 < n := by omega
      have i0 : (0 : Int) ≤ (k : Int) := by omega
      have i1 : (k : Int) < (n : Int) := by omega
      by_cases hx : l.getD k 0 = 1
      · have Hat := Lib.hid (toR_at hg hk1 (by omega) hx)
        have hsm := good_small hg
        have Hcall := Lib.hid (spec_ctTake (some ⟨b', off, none⟩) n c B l k w hn h hB hsm n10 hlc hk1 hk2)
        rw [hx] at g0
        clear hc h hn hg hx hsm
        go_wp2_with fail
        refine Hcall.out.mono ?_
        rintro e w2 ⟨A2, c2, rfl, o2, b2⟩
        have hE1 : good (takL l k) = true → RetI w (optL (toR l k)) (toR l k).isSome (.returned (.tuple #[.slice A2 (takL l k).length c2, .bool true])) w2 := fun e => retO_yes (Hat.out.trans (if_pos e)) rfl o2 b2
        have hE2 : good (takL l k) = false → RetI w (optL (toR l k)) (toR l k).isSome (.returned (.tuple #[.slice none 0 0, .bool false])) w2 := fun e => retO_no (Hat.out.trans (if_neg (by rw [e]; simp))) b2
        have HE1 := Lib.hid hE1
        have HE2 := Lib.hid hE2
        clear hE1 hE2 o2 b2 g0
        generalize (takL l k).length = z at *
        cases hgd : good (takL l k)
        · have HF := Lib.hid (HE2.out hgd)
          clear hgd
          go_wp2
          go_ret2
          exact HF.out
        · have HF := Lib.hid (HE1.out hgd)
          clear hgd
          go_wp2
          go_ret2
          exact HF.out
      · have HE := Lib.hid (retO_no (R := toR l k) (w := w) (toR_no3 hx) (Below.refl _ _))
        have hx' : (l.getD k 0 != 1) = true := by simpa using hx
        generalize l.getD k 0 = x at *
        clear h hn hg hc hx
        go_wp2
        go_ret2
        exact HE.out



end Go.Proofs.Ytnoddecligmjbaa

/- CcV: What the general law of closing lists calls: the draws of chapter 4's lists, the laws' small helpers, MatrixOfList and ClosesUp told at once. -/
namespace Go.Proofs.Ytnoddecligmjbaa
open Go.RowKit

theorem CodeB.mono {w : World} {B B' : Nat} {A : Option Addr} {n : Nat} (h : CodeB w B A n) (hB : B ≤ B') : CodeB w B' A n := fun h0 => by
  obtain ⟨b, off, e, hb, hc⟩ := h h0
  exact ⟨b, off, e, Nat.lt_of_lt_of_le hb hB, hc⟩
theorem CodeB.below {w w' : World} {B : Nat} {A : Option Addr} {n : Nat} (h : CodeB w B A n) (hb : Below B w w') : CodeB w' B A n := h.keep fun _ _ hlt => hb.cell (p := ⟨_, _, none⟩) hlt
theorem heap_new (w : World) (o : Obj) : (w.alloc o).heap[w.heap.size]? = some o := by
  show (w.heap.push o)[w.heap.size]? = some o
  simp
/-- the cursor of a draw, as it begins -/
theorem cur_new {w : World} {B n c : Nat} {A : Option Addr} (h : CodeB w B A n) (hB : B ≤ w.heap.size) (hn : n ≤ 1048576) : Cur (w.alloc (.cells #[.slice A n c, .int .i64 0, .int .u64 0] 99)) w.heap.size 0 :=
  ⟨A, n, c, 0, 0, hn, Nat.le_refl _, ⟨by omega, by omega⟩, heap_new w _, (h.below ((Below.refl B w).alloc hB _)).mono hB⟩
theorem DrawnS.giv {w w1 w2 w' : World} {N M : Nat} {e : Ending} {o : Obj} (hw : w1 = w.alloc o) (hg : w1.grownBy w2 (some w.heap.size)) (h : DrawnS w2 w.heap.size N M e w') : GivS w M e w' := by
  obtain ⟨A, c, l, h1, h2, h3, h4, _, h6⟩ := h
  subst hw
  exact ⟨A, c, l, h1, h2, h3, h4, below_grown ((Below.refl w.heap.size w).alloc (Nat.le_refl _) o) (hg.trans h6) (Nat.le_refl _) (fun k hk => by injection hk with hk; omega)⟩

theorem spec_DrawMatrixOfList (A : Option Addr) (n c B : Nat) (w : World) (h : CodeB w B A n) (hB : B ≤ w.heap.size) (hn : n ≤ 1048576) :
    Calls Try.prog 87 #[.slice A n c] w (GivS w 11) := by
  obtain ⟨w1, hw1⟩ : ∃ w1, w1 = w.alloc (.cells #[.slice A n c, .int .i64 0, .int .u64 0] 99) := ⟨_, rfl⟩
  have hc : Cur w1 w.heap.size 0 := hw1 ▸ cur_new h hB hn
  have HT := Lib.hid (spec_terms w.heap.size 0 (-2) 5 w1 hc (by omega) (by omega) (by omega) (by omega))
  have HG : Hid (∀ e w', DrawnS w1 w.heap.size 100 11 e w' → GivS w 11 e w') := Lib.hid fun e w' h => h.giv hw1 (World.grownBy.refl w1 _)
  clear h hc
  go_enter Try.func87, Try.ntmps87
  go_wp2_with fail
  rw [← hw1]
  refine HT.out.mono ?_
  intro e w2 hd
  have HR := Lib.hid (HG.out _ _ hd.s)
  obtain ⟨A2, c2, l2, rfl, _⟩ := hd
  clear HT HG hw1
  go_wp2
  go_ret
  exact HR.out
theorem spec_DrawClosesUp (A : Option Addr) (n c B : Nat) (w : World) (h : CodeB w B A n) (hB : B ≤ w.heap.size) (hn : n ≤ 1048576) :
    Calls Try.prog 91 #[.slice A n c] w (GivS w 12) := by
  obtain ⟨w1, hw1⟩ : ∃ w1, w1 = w.alloc (.cells #[.slice A n c, .int .i64 0, .int .u64 0] 99) := ⟨_, rfl⟩
  have hc : Cur w1 w.heap.size 0 := hw1 ▸ cur_new h hB hn
  have HO := Lib.hid (spec_one w.heap.size 0 3 w1 hc (by omega) (by omega))
  clear h hc
  go_enter Try.func91, Try.ntmps91
  go_wp2_with fail
  rw [← hw1]
  refine HO.out.mono ?_
  rintro e w2 ⟨b, rfl, hc, hg⟩
  have HG : Hid (∀ N M e w', M ≤ 12 → DrawnS w2 w.heap.size N M e w' → GivS w 12 e w') := Lib.hid fun N M e w' hM h => by
    obtain ⟨A, c, l, h1, h2, h3⟩ := h.giv hw1 hg
    exact ⟨A, c, l, h1, Nat.le_trans h2 hM, h3⟩
  cases b
  · have HT := Lib.hid (spec_quiddity w.heap.size 2 10 w2 hc (by omega) (by omega) (by omega))
    clear hc hg HO hw1
    go_wp2_with fail
    refine HT.out.mono ?_
    intro e w3 hd
    have HR := Lib.hid (HG.out _ _ _ _ (by omega) hd)
    obtain ⟨A2, c2, l2, rfl, _⟩ := hd
    clear HT HG
    go_wp2
    go_ret
    exact HR.out
  · have HT := Lib.hid (spec_terms w.heap.size 2 1 3 w2 hc (by omega) (by omega) (by omega) (by omega))
    clear hc hg HO hw1
    go_wp2_with fail
    refine HT.out.mono ?_
    intro e w3 hd
    have HR := Lib.hid (HG.out _ _ _ _ (by omega) hd.s)
    obtain ⟨A2, c2, l2, rfl, _⟩ := hd
    clear HT HG
    go_wp2
    go_ret
    exact HR.out
def BigEnd (n1 n2 : Nat) (w : World) (e : Ending) (w' : World) : Prop := ∃ b : Bool, e = .returned (.bool b) ∧ (b = false → n1 + n2 ≤ 1048576) ∧ w = w'
theorem laws_big (A1 A2 : Option Addr) (n1 c1 n2 c2 : Nat) (w : World) (h1 : n1 ≤ maxLen) (h2 : n2 ≤ maxLen) :
    Calls Try.prog 40 #[.slice A1 n1 c1, .slice A2 n2 c2] w (BigEnd n1 n2 w) := by
  have HE : Hid (∀ b, (b = false → n1 + n2 ≤ 1048576) → BigEnd n1 n2 w (.returned (.bool b)) w) := Lib.hid fun b h => ⟨b, rfl, h, rfl⟩
  have m1 : (n1 : Int) ≤ (maxLen : Int) := by omega
  have m2 : (n2 : Int) ≤ (maxLen : Int) := by omega
  unfold maxLen at m1 m2
  by_cases h : 1048576 < n1
  · have i1 : (1048576 : Int) < (n1 : Int) := by omega
    clear h1 h2
    go_enter Try.func40, Try.ntmps40
    go_wp2
    go_ret
    exact HE.out _ (fun h => by cases h)
  · have i1 : ¬ (1048576 : Int) < (n1 : Int) := by omega
    have hw : IntKind.i64.wrap (1048576 - (n1 : Int)) = 1048576 - (n1 : Int) := IntWalk.i64_in _ (by omega)
    clear h1 h2
    go_enter Try.func40, Try.ntmps40
    go_wp2
    go_ret
    exact HE.out _ (fun h => by simp at h; omega)
theorem laws_dSum (A : Option Addr) (n c B : Nat) (l : List Int) (w : World) (hn : l.length = n) (h : SlI w B A l) (hsm : Small l) (hl : n ≤ 10) :
    Calls Try.prog 58 #[.slice A n c] w fun e w' => e = .returned (.int .i64 (sumI l)) ∧ w = w' := by
  subst hn
  have Hsm := Lib.hid hsm
  clear hsm
  go_enter Try.func58, Try.ntmps58
  go_wp2
  go_loop [3, 5, 8] (fun s _ i => ∃ k : Nat, k ≤ l.length ∧ i = .int .i64 k ∧ s = .int .i64 (sumI (l.take k))) (fun _ _ i => l.length - (intOf i).toNat)
  case atStart => exact ⟨0, Nat.zero_le _, rfl, rfl⟩
  case round =>
    obtain ⟨k, hk, rfl, rfl⟩ := hrel
    by_cases hlt : k < l.length
    · obtain ⟨b', off, rfl, hbB, hc⟩ := h (by omega)
      have g0 := hc k hlt
      have i0 : (0 : Int) ≤ (k : Int) := by omega
      have i1 : (k : Int) < (l.length : Int) := by omega
      have hst := sumI_take l k hlt
      have hbd := sumI_bd Hsm.out k (by omega)
      have hx := Hsm.out.get k hlt
      obtain ⟨hb1, hb2⟩ := hbd
      obtain ⟨hx1, hx2⟩ := hx
      generalize sumI (l.take k) = p at *
      generalize l.getD k 0 = x at *
      have Hst := Lib.hid hst
      clear hst hc h
      go_wp2
      go_round
      case rel => exact ⟨k + 1, by omega, by go_num, by rw [Hst.out]⟩
      case measure => simp [intOf]; omega
    · obtain rfl : k = l.length := by omega
      rw [List.take_length]
      clear h
      go_wp2
      go_ret
      exact ⟨rfl, rfl⟩
theorem back_take (l : List Int) (k : Nat) (h : k < l.length) : l.reverse.take (l.length - 1 - k) ++ [l.getD k 0] = l.reverse.take (l.length - k) := by
  rw [show l.length - k = (l.length - 1 - k) + 1 by omega, take_snoc' l.reverse _ (by simp; omega), rev_getD _ _ (by omega), show l.length - 1 - (l.length - 1 - k) = k by omega]
/-- a list grown in new memory -/
def BackI (w : World) (L : List Int) (v : Value) (wr : World) : Prop :=
  ∃ (A : Option Addr) (c : Nat), v = .slice A L.length c ∧ wr.ownsRow w.heap.size 3 1 (.slice A L.length c) L.length (ics L) ∧ Below w.heap.size w wr
theorem laws_dBack (A : Option Addr) (c B : Nat) (l : List Int) (w : World) (h : SlI w B A l) (hB : B ≤ w.heap.size) (hl : l.length ≤ 1000) :
    Calls Try.prog 56 #[.slice A l.length c] w fun e w' => ∃ v, e = .returned v ∧ BackI w l.reverse v w' := by
  have hw0 : IntKind.i64.wrap ((l.length : Int) - 1) = (l.length : Int) - 1 := IntWalk.i64_in _ (by omega)
  have Hs := Lib.hid h
  clear h
  go_enter Try.func56, Try.ntmps56
  go_wp2
  go_loopw [3, 4] (fun v i wr => ∃ k : Nat, k ≤ l.length ∧ i = .int .i64 ((k : Int) - 1) ∧ BackI w (l.reverse.take (l.length - k)) v wr) (fun _ i _ => ((intOf i) + 1).toNat)
  case atStart => exact ⟨l.length, Nat.le_refl _, rfl, none, 0, by simp, by simpa [ics] using World.ownsRow_nil _ _ _ _, Below.refl _ _⟩
  case round =>
    obtain ⟨k, hk, rfl, A1, c1, rfl, ho, hb⟩ := hrel
    have hlen : (l.reverse.take (l.length - k)).length = l.length - k := by simp
    by_cases h0 : 0 < k
    · obtain ⟨m, rfl⟩ : ∃ m, k = m + 1 := ⟨k - 1, by omega⟩
      have hm : m < l.length := by omega
      obtain ⟨b', off, rfl, hbB, hc⟩ := Hs.out (by omega)
      have g0 : wr.cell? ⟨b', off + m, none⟩ = some (.int .i64 (l.getD m 0)) := (hb.cell (p := ⟨b', off + m, none⟩) (Nat.lt_of_lt_of_le hbB hB)).trans (hc m hm)
      have i0 : (0 : Int) ≤ (m : Int) := by omega
      have i1 : (m : Int) < (l.length : Int) := by omega
      have e1 : ((m + 1 : Nat) : Int) - 1 = (m : Int) := by omega
      rw [e1]
      have hbt := back_take l m hm
      rw [show l.length - 1 - m = l.length - (m + 1) by omega] at hbt
      generalize l.getD m 0 = x at *
      have own2 := ho.alloc (.cells #[.int .i64 x] 3)
      have Hb := Lib.hid hb
      have Ho := Lib.hid ho
      have Hbt := Lib.hid hbt
      have hz := hb.size
      clear hc hb ho hbt
      generalize hL : l.reverse.take (l.length - (m + 1)) = L at *
      have hL7 : L.length ≤ 1000000 := by omega
      clear hlen
      go_wp2_with (at_builtin; refine append1I _ rfl _ _ rfl w.heap.size (.slice A1 L.length c1) L rfl own2 wr.heap.size x rfl ?c1 ?c2 ?c3 ?_; (case c1 => simp [go_sem]); (case c2 => omega); (case c3 => simp; omega); intro A3 c3 w3 own3 hg3)
      have HB : Hid (BackI w (L ++ [x]) (.slice A3 (L.length + 1) c3) w3) := Lib.hid ⟨A3, c3, by simp, by simpa using own3, below_grown ((Hb.out).alloc Hb.out.size _) hg3 (Nat.le_refl _) (fun k hk => (Ho.out.lt k hk).1)⟩
      clear own3 hg3 own2 Ho Hb
      go_wp2
      go_roundw
      case rel => exact ⟨m, by omega, rfl, by rw [← Hbt.out]; exact HB.out⟩
      case measure => simp [intOf] <;> omega
    · obtain rfl : k = 0 := by omega
      rw [Nat.sub_zero, List.take_of_length_le (by simp)] at ho ⊢
      have HE : Hid (BackI w l.reverse (.slice A1 l.reverse.length c1) wr) := Lib.hid ⟨A1, c1, rfl, ho, hb⟩
      clear ho hb Hs
      go_wp2
      go_ret
      exact ⟨_, rfl, HE.out⟩
theorem spec_mol (A : Option Addr) (c B : Nat) (l : List Int) (w : World) (h : SlI w B A l) (hB : B ≤ w.heap.size) (hl : l.length ≤ 1048576) (hlc : l.length ≤ c) :
    Calls Try.prog 89 #[.slice A l.length c] w fun e w' => e = .returned (.tuple #[.agg #[.int .i64 (mlA l).a, .int .i64 (mlA l).b, .int .i64 (mlA l).c, .int .i64 (mlA l).d], .bool (mlK l)]) ∧ Below w.heap.size w w' := by
  unfold mlA mlK
  cases hg : good l
  · exact spec_MatrixOfList_no A c B l w hg h hB hl
  · rw [if_pos rfl, Bool.true_and]
    exact spec_MatrixOfList_yes A c B l w hg h hB hl hlc
theorem impl_mol (A : Option Addr) (c B : Nat) (l : List Int) (w : World) (h : SlI w B A l) (hB : B ≤ w.heap.size) (hl : l.length ≤ 1048576) (hlc : l.length ≤ c) :
    Calls Try.prog 88 #[.slice A l.length c] w fun e w' => e = .returned (.tuple #[.agg #[.int .i64 (mlA l).a, .int .i64 (mlA l).b, .int .i64 (mlA l).c, .int .i64 (mlA l).d], .bool (mlK l)]) ∧ Below w.heap.size w w' := by
  unfold mlA mlK
  cases hg : good l
  · exact impl_MatrixOfList_no A c B l w hg h hB hl
  · rw [if_pos rfl, Bool.true_and]
    exact impl_MatrixOfList_yes A c B l w hg h hB hl hlc
theorem spec_clo (A : Option Addr) (c B : Nat) (l : List Int) (w : World) (h : SlI w B A l) (hB : B ≤ w.heap.size) (hl : l.length ≤ 1048576) (hlc : l.length ≤ c) :
    Calls Try.prog 93 #[.slice A l.length c] w fun e w' => e = .returned (.tuple #[.bool (clB l), .bool (good l)]) ∧ Below w.heap.size w w' := by
  unfold clB
  cases hg : good l
  · exact spec_ClosesUp_no A c B l w hg h hl
  · rw [Bool.true_and]
    exact spec_ClosesUp_yes A c B l w hg h hB hl hlc
theorem impl_clo (A : Option Addr) (c B : Nat) (l : List Int) (w : World) (h : SlI w B A l) (hB : B ≤ w.heap.size) (hl : l.length ≤ 1048576) (hlc : l.length ≤ c) :
    Calls Try.prog 92 #[.slice A l.length c] w fun e w' => e = .returned (.tuple #[.bool (clB l), .bool (good l)]) ∧ Below w.heap.size w w' := by
  unfold clB
  cases hg : good l
  · exact impl_ClosesUp_no A c B l w hg h hl
  · rw [Bool.true_and]
    exact impl_ClosesUp_yes A c B l w hg h hB hl hlc
end Go.Proofs.Ytnoddecligmjbaa

/- CcW: The general law of closing lists: its walk. -/
namespace Go.Proofs.Ytnoddecligmjbaa
open Go.RowKit

theorem impl_ct (A : Option Addr) (c B n : Nat) (l : List Int) (w : World) (hn : l.length = n) (h : SlI w B A l) (hg : good l = true) (hl : n ≤ 1048576) (hlc : n ≤ c) :
    Calls Try.prog 44 #[.slice A n c] w fun e w' => e = .returned (.tuple #[.int .i64 (ctv (-1) l), .bool true]) ∧ Below w.heap.size w w' := by
  subst hn
  refine (impl_ContinuantOf A c B l w h hl hlc).mono ?_
  intro e w' he
  unfold CtEnd ctR at he
  rw [hg] at he
  exact he

theorem mlR_parts {l : List Int} {a b p q : Int} (h : mlR l = ⟨a, b, p, q⟩) : ctv (-1) l = a ∧ (1 < l.length → b = -ctv (-1) (l.take (l.length - 1)) ∧ p = ctv (-1) (l.drop 1) ∧ q = -ctv (-1) ((l.drop 1).take (l.length - 2))) := by
  unfold mlR at h
  by_cases h0 : l.length = 0
  · obtain rfl : l = [] := List.eq_nil_of_length_eq_zero h0
    have := congrArg M4.a h
    exact ⟨this, fun h => by simp at h⟩
  · rw [if_neg h0] at h
    have h1 := congrArg M4.a h
    have h2 := congrArg M4.b h
    have h3 := congrArg M4.c h
    have h4 := congrArg M4.d h
    dsimp only at h1 h2 h3 h4
    refine ⟨h1, fun hl => ⟨h2.symm, h3.symm, ?_⟩⟩
    rw [if_pos hl] at h4
    exact h4.symm

theorem good_take {l : List Int} (h : good l = true) (k : Nat) : good (l.take k) = true := by
  obtain ⟨h1, h2⟩ := good_iff.1 h
  have hs := good_small h
  exact good_iff.2 ⟨by simp; omega, fun i hi => (hs.take k).get i hi⟩
theorem good_drop {l : List Int} (h : good l = true) (k : Nat) : good (l.drop k) = true := by
  obtain ⟨h1, h2⟩ := good_iff.1 h
  have hs := good_small h
  exact good_iff.2 ⟨by simp; omega, fun i hi => (hs.drop k).get i hi⟩
theorem put_len (l : List Int) (k : Int) : (optL (poR l k)).length ≤ 10 := by
  unfold optL poR
  split
  · rename_i hc
    exact (good_iff.1 hc.2.2).1
  · simp
/-- three at least, and the first k at least 1 -/
def posB (l : List Int) (k : Nat) : Bool := decide (3 ≤ l.length) && (l.take k).all fun x => decide (1 ≤ x)
theorem posB_next {l : List Int} {k : Nat} (h : k < l.length) : posB l (k + 1) = (posB l k && decide (1 ≤ l.getD k 0)) := by
  unfold posB
  rw [take_snoc' l k h, List.all_append]
  simp [Bool.and_assoc]
theorem posB_all {l : List Int} (h : posB l l.length = true) : 3 ≤ l.length ∧ ∀ x ∈ l, 1 ≤ x := by
  unfold posB at h
  rw [List.take_length, Bool.and_eq_true, decide_eq_true_eq, List.all_eq_true] at h
  exact ⟨h.1, fun x hx => by simpa using h.2 x hx⟩
/-- ones put in: the matrix stays -/
theorem put_tells {l : List Int} {d : Nat} {M : M4} (hM : mlA l = M) (hK : mlK l = true) (h1 : 1 ≤ d) (h2 : d < l.length) (h : (poR l (d : Int)).isSome = true) : mlA (optL (poR l (d : Int))) = M ∧ mlK (optL (poR l (d : Int))) = true := by
  obtain ⟨hg, hok⟩ := mlK_iff.1 hK
  have e := poR_at hg h1 h2
  by_cases hp : good (putL l d) = true
  · rw [if_pos hp] at e
    rw [e]
    show mlA (putL l d) = M ∧ mlK (putL l d) = true
    have hk : mlK (putL l d) = true := mlK_iff.2 ⟨hp, by rw [put_mlR h1 h2]; exact hok⟩
    exact ⟨by rw [mlA_yes hk, put_mlR h1 h2, ← mlA_yes hK]; exact hM, hk⟩
  · rw [if_neg hp] at e
    rw [e] at h
    cases h

set_option maxRecDepth 100000 in
set_option maxHeartbeats 25600000 in
theorem WListsCloseUp.walk (w : World) (A1 : Option Addr) (n1 c1 : Nat) (h1 : CodeB w w.heap.size A1 n1) (m1 : n1 ≤ maxLen) (A2 : Option Addr) (n2 c2 : Nat) (h2 : CodeB w w.heap.size A2 n2) (m2 : n2 ≤ maxLen) :
    Calls Try.prog 14 #[.slice A1 n1 c1, .slice A2 n2 c2] w fun e w' => e = .returned (.bool true) ∧ Below w.heap.size w w' := by
  have HB := Lib.hid (laws_big A1 A2 n1 c1 n2 c2 w m1 m2)
  have H2 := Lib.hid h2
  have H1 := Lib.hid h1
  clear h1 h2 m1 m2
  go_enter Try.func14, Try.ntmps14
  go_wp2_with fail
  refine HB.out.mono ?_
  rintro e w' ⟨b, rfl, hb, rfl⟩
  cases b
  · have hn := hb rfl
    have HD := Lib.hid (spec_DrawMatrixOfList A1 n1 c1 w.heap.size w H1.out (Nat.le_refl _) (by omega))
    clear hb HB H1
    go_wp2_with fail
    refine HD.out.mono ?_
    rintro e w1 ⟨A, c, l, rfl, hl, hlc, hs, hd⟩
    have Hs := Lib.hid hs
    have Hlc := Lib.hid hlc
    have HI := Lib.hid (impl_mol A c _ l w1 hs (Nat.le_refl _) (by omega) hlc)
    obtain ⟨M, hM⟩ : ∃ M, mlA l = M := ⟨_, rfl⟩
    obtain ⟨a, b, p, q⟩ := M
    obtain ⟨K, hK⟩ : ∃ K, mlK l = K := ⟨_, rfl⟩
    rw [hM, hK] at HI
    have HM := Lib.hid hM
    have HK := Lib.hid hK
    clear HD hs hlc hM hK
    go_wp2_with fail
    refine HI.out.mono ?_
    rintro e w2 ⟨rfl, hb2⟩
    have hd2 := below_kept hd (Nat.le_refl _) hb2
    obtain ⟨w3, hw3⟩ : ∃ w3, w3 = w2.alloc (.cells #[.int .i64 a, .int .i64 b, .int .i64 p, .int .i64 q] 76) := ⟨_, rfl⟩
    have S3 : Bx w3 w2.heap.size a b p q := hw3 ▸ Bx.new w2 76 a b p q
    have hd3 : Below w.heap.size w w3 := hw3 ▸ below_alloc1 hd2 (Nat.le_refl _) (.cells #[.int .i64 a, .int .i64 b, .int .i64 p, .int .i64 q] 76)
    have hb13 : Below w1.heap.size w1 w3 := hw3 ▸ below_alloc1 hb2 (Nat.le_refl _) (.cells #[.int .i64 a, .int .i64 b, .int .i64 p, .int .i64 q] 76)
    have HJ := Lib.hid (spec_mol A c _ l w3 (Hs.out.below hb13) hb13.size (by omega) Hlc.out)
    rw [HM.out, HK.out] at HJ
    clear HI hb2 hd2 hd
    go_wp2_with fail
    rw [← hw3]
    generalize w2.heap.size = gm at *
    clear hw3
    refine HJ.out.mono ?_
    rintro e w4 ⟨rfl, hb4⟩
    have S4 := S3.kept hb4
    have hd4 := below_kept hd3 (Nat.le_refl _) hb4
    have hb14 := below_kept hb13 (Nat.le_refl _) hb4
    obtain ⟨w5, hw5⟩ : ∃ w5, w5 = w4.alloc (.cells #[.int .i64 a, .int .i64 b, .int .i64 p, .int .i64 q] 76) := ⟨_, rfl⟩
    have S5 : Bx w5 gm a b p q := hw5 ▸ S4.alloc _
    have T5 : Bx w5 w4.heap.size a b p q := hw5 ▸ Bx.new w4 76 a b p q
    have hd5 : Below w.heap.size w w5 := hw5 ▸ below_alloc1 hd4 (Nat.le_refl _) (.cells #[.int .i64 a, .int .i64 b, .int .i64 p, .int .i64 q] 76)
    have hb15 : Below w1.heap.size w1 w5 := hw5 ▸ below_alloc1 hb14 (Nat.le_refl _) (.cells #[.int .i64 a, .int .i64 b, .int .i64 p, .int .i64 q] 76)
    clear HJ S3 S4 hb4 hd3 hd4 hb13 hb14
    have hKK : (K != K) = false := by simp
    have hrun : ∀ w, (Op.equalIn 10000 76 (.agg #[.int .i64 a, .int .i64 b, .int .i64 p, .int .i64 q]) (.agg #[.int .i64 a, .int .i64 b, .int .i64 p, .int .i64 q])).run Try.prog w = .ok true w := fun w => by
      rw [run_mx_eq, M4.eqB_iff.2 rfl]
    go_upto_region 6 with fail
    rw [← hw5]
    generalize w4.heap.size = gr at *
    clear hw5
    have S := Lib.hid S5
    have HD5 := Lib.hid hd5
    have HB15 := Lib.hid hb15
    obtain ⟨s0, s1, s2, s3⟩ := S5
    obtain ⟨t0, t1, t2, t3⟩ := T5
    clear hd5 hb15
    go_upto_if 60 with fail
    go_cut [] from 10 to 162 (fun wx => Below w.heap.size w wx)
    case first =>
      clear hKK hrun t0 t1 t2 t3 H2
      cases K
      · clear s0 s1 s2 s3
        go_wp2_with fail
        go_meet
        exact HD5.out
      · obtain ⟨hg, hok⟩ := mlK_iff.1 HK.out
        have hR : mlR l = ⟨a, b, p, q⟩ := (mlA_yes HK.out).symm.trans HM.out
        obtain ⟨ha, hparts⟩ := mlR_parts hR
        have HC := Lib.hid (impl_ct A c _ l.length l w5 rfl (Hs.out.below HB15.out) hg (by omega) Hlc.out)
        rw [ha] at HC
        rw [hR] at hok
        have HR := Lib.hid hR
        have HG := Lib.hid hg
        have HP := Lib.hid hparts
        have Hok := Lib.hid (show mxB a b p q = true from hok)
        clear hR hg hparts hok ha
        go_wp2_with fail
        refine HC.out.mono ?_
        rintro e w6 ⟨rfl, hb6⟩
        have S6 := S.out.kept hb6
        have hd6 := below_kept HD5.out (Nat.le_refl _) hb6
        have hb16 := below_kept HB15.out (Nat.le_refl _) hb6
        have HX := Lib.hid (impl_IsMatrix a b p q w6)
        rw [Hok.out] at HX
        clear s0 s1 s2 s3 HC
        have HS6 := Lib.hid S6
        obtain ⟨s0, s1, s2, s3⟩ := S6
        have HD6 := Lib.hid hd6
        have HB16 := Lib.hid hb16
        clear hb6 hd6 hb16 S HD5 HB15
        go_wp2_with fail
        refine HX.out.mono ?_
        rintro e w7 ⟨rfl, hb7⟩
        have S7 := HS6.out.kept hb7
        have hd7 := below_kept HD6.out (Nat.le_refl _) hb7
        have hb17 := below_kept HB16.out (Nat.le_refl _) hb7
        clear s0 s1 s2 s3 HX HS6 HD6 HB16 hb7
        have HS7 := Lib.hid S7
        obtain ⟨s0, s1, s2, s3⟩ := S7
        have HD7 := Lib.hid hd7
        have HB17 := Lib.hid hb17
        clear hd7 hb17
        by_cases hl1 : 1 < l.length
        · obtain ⟨bl, off, hA, _, _⟩ := Hs.out (by omega)
          subst hA
          obtain ⟨hb, hp, hq⟩ := HP.out hl1
          have i1 : (1 : Int) < (l.length : Int) := by omega
          have i2 : (l.length : Int) ≤ 11 := by omega
          have i3 : (1 : Int) ≤ (l.length : Int) := by omega
          have i4 : (l.length : Int) - 1 ≤ (c : Int) := by have := Hlc.out; omega
          have i5 : ¬ c = 0 := by have := Hlc.out; omega
          have i6 : ¬ c = 1 := by have := Hlc.out; omega
          have i7 : (1 : Int) ≤ (l.length : Int) - 1 := by omega
          have i8 : l.length ≤ c := Hlc.out
          have i9 : 1 ≤ l.length := by omega
          have hsl := Hs.out.below HB17.out
          have hcut1 : SlI w7 w1.heap.size (some ⟨bl, off + 1, none⟩) (l.drop 1) := hsl.cutAt 1
          have HSL := Lib.hid hsl
          have HSC := Lib.hid hcut1
          have HC1 := Lib.hid (impl_ct (some ⟨bl, off, none⟩) c _ (l.length - 1) (l.take (l.length - 1)) w7 (by simp) (hsl.take _) (good_take HG.out _) (by omega) (by omega))
          obtain ⟨x, hx⟩ : ∃ x, ctv (-1) (l.take (l.length - 1)) = x := ⟨_, rfl⟩
          obtain ⟨z, hz⟩ : ∃ z, ctv (-1) ((l.drop 1).take (l.length - 2)) = z := ⟨_, rfl⟩
          have hxb := ctv_bd (s := -1) (.inr rfl) (l.take (l.length - 1)) (good_small (good_take HG.out _)) (by simp; omega)
          have hzb := ctv_bd (s := -1) (.inr rfl) ((l.drop 1).take (l.length - 2)) (good_small (good_take (good_drop HG.out _) _)) (by simp; omega)
          rw [hx] at hb HC1 hxb
          rw [hz] at hq hzb
          subst hb hq
          have Hz := Lib.hid hz
          have Hp := Lib.hid hp
          obtain ⟨x1, x2⟩ := hxb
          obtain ⟨z1, z2⟩ := hzb
          have hwx : IntKind.i64.wrap (-x) = -x := IntWalk.i64_in _ (by omega)
          have hwz : IntKind.i64.wrap (-z) = -z := IntWalk.i64_in _ (by omega)
          clear HP hsl hcut1 hx hz hp
          go_wp2_with fail
          refine HC1.out.mono ?_
          rintro e w8 ⟨rfl, hb8⟩
          have S8 := HS7.out.kept hb8
          have hd8 := below_kept HD7.out (Nat.le_refl _) hb8
          have hb18 := below_kept HB17.out (Nat.le_refl _) hb8
          have HC2 := Lib.hid (impl_ct (some ⟨bl, off + 1, none⟩) (c - 1) _ (l.length - 1) (l.drop 1) w8 (by simp) ((Hs.out.below hb18).cutAt 1) (good_drop HG.out _) (by omega) (by omega))
          rw [← Hp.out] at HC2
          clear s0 s1 s2 s3 HC1 HS7 HD7 HB17 hb8 HSL HSC
          go_wp2_with fail
          refine HC2.out.mono ?_
          rintro e w9 ⟨rfl, hb9⟩
          have S9 := S8.kept hb9
          have hd9 := below_kept hd8 (Nat.le_refl _) hb9
          have hb19 := below_kept hb18 (Nat.le_refl _) hb9
          have HC3 := Lib.hid (impl_ct (some ⟨bl, off + 1, none⟩) (c - 1) _ (l.length - 1 - 1) ((l.drop 1).take (l.length - 2)) w9 (by simp; omega) (((Hs.out.below hb19).cutAt 1).take _) (good_take (good_drop HG.out _) _) (by omega) (by omega))
          rw [Hz.out] at HC3
          clear HC2 S8 hd8 hb18 hb9
          go_wp2_with fail
          refine HC3.out.mono ?_
          rintro e w10 ⟨rfl, hb10⟩
          have S10 := S9.kept hb10
          have hd10 := below_kept hd9 (Nat.le_refl _) hb10
          have hb110 := below_kept hb19 (Nat.le_refl _) hb10
          have HS10 := Lib.hid S10
          obtain ⟨s0, s1, s2, s3⟩ := S10
          have HD10 := Lib.hid hd10
          have HB110 := Lib.hid hb110
          clear HC3 S9 hd9 hb19 hb10 hd10 hb110
          go_wp2_with fail
          clear s0 s1 s2 s3 hwx hwz
          go_loopw [18, 19, 20, 21, 22] (fun k _ _ _ _ wr => ∃ d : Nat, 1 ≤ d ∧ d ≤ l.length ∧ k = .int .i64 d ∧ Bx wr gm a (-x) p (-z) ∧ Below w.heap.size w wr ∧ Below w1.heap.size w1 wr) (fun k _ _ _ _ _ => l.length - (intOf k).toNat)
          case atStart => exact ⟨1, Nat.le_refl _, i9, rfl, HS10.out, HD10.out, HB110.out⟩
          case round =>
            obtain ⟨d, hd1, hdl, rfl, hS, hd, hb1⟩ := hrel
            by_cases hlt : d < l.length
            · have j1 : (d : Int) < (l.length : Int) := by omega
              have HU := Lib.hid (impl_PutOne (some ⟨bl, off, none⟩) c _ l (d : Int) wr (Hs.out.below hb1) hb1.size (by omega) i8)
              obtain ⟨P, hP⟩ : ∃ P, optL (poR l (d : Int)) = P := ⟨_, rfl⟩
              obtain ⟨ok, hok⟩ : ∃ ok, (poR l (d : Int)).isSome = ok := ⟨_, rfl⟩
              have hPt : ok = true → mlA P = ⟨a, -x, p, -z⟩ ∧ mlK P = true := fun h => by
                subst hP
                exact put_tells HM.out HK.out hd1 hlt (hok.trans h)
              have hPl : P.length ≤ 1000000 := by
                rw [← hP]
                exact Nat.le_trans (put_len l d) (by decide)
              rw [hP, hok] at HU
              have HPt := Lib.hid hPt
              have HS := Lib.hid hS
              have HD := Lib.hid hd
              have HB1 := Lib.hid hb1
              clear HS10 HD10 HB110 hP hok hPt hS hd hb1
              go_wp2_with fail
              refine HU.out.mono ?_
              rintro e w11 ⟨A', c', rfl, ho, hb11⟩
              have HI := Lib.hid (impl_mol A' c' _ P w11 (SlI.of_own ho) (Nat.le_refl _) (by omega) (own_capI ho))
              obtain ⟨⟨a', b', p', q'⟩, hM'⟩ : ∃ M, mlA P = M := ⟨_, rfl⟩
              obtain ⟨K', hK'⟩ : ∃ K, mlK P = K := ⟨_, rfl⟩
              rw [hM', hK'] at HI HPt
              have hS11 := HS.out.kept hb11
              have hd11 := below_kept HD.out (Nat.le_refl _) hb11
              have hb111 := below_kept HB1.out (Nat.le_refl _) hb11
              clear HU HS HD HB1 hb11 ho hM' hK'
              go_wp2_with fail
              refine HI.out.mono ?_
              rintro e w12 ⟨rfl, hb12⟩
              obtain ⟨w13, hw13⟩ : ∃ w13, w13 = w12.alloc (.cells #[.int .i64 a', .int .i64 b', .int .i64 p', .int .i64 q'] 76) := ⟨_, rfl⟩
              have S13 : Bx w13 gm a (-x) p (-z) := hw13 ▸ (hS11.kept hb12).alloc _
              have T13 : Bx w13 w12.heap.size a' b' p' q' := hw13 ▸ Bx.new w12 76 a' b' p' q'
              have hd13 : Below w.heap.size w w13 := hw13 ▸ below_alloc1 (below_kept hd11 (Nat.le_refl _) hb12) (Nat.le_refl _) (.cells #[.int .i64 a', .int .i64 b', .int .i64 p', .int .i64 q'] 76)
              have hb113 : Below w1.heap.size w1 w13 := hw13 ▸ below_alloc1 (below_kept hb111 (Nat.le_refl _) hb12) (Nat.le_refl _) (.cells #[.int .i64 a', .int .i64 b', .int .i64 p', .int .i64 q'] 76)
              have HE := Lib.hid (And.intro S13 (And.intro hd13 hb113))
              clear HI hS11 hd11 hb111 hb12 hd13 hb113
              go_upto_region 23 with fail
              rw [← hw13]
              generalize w12.heap.size = gs at *
              clear hw13
              cases ok
              · clear S13 T13 HPt
                go_wp2
                go_roundw
                case rel => exact ⟨d + 1, by omega, by omega, by go_num, HE.out⟩
                case measure => simp [intOf]; omega
              · obtain ⟨hq1, rfl⟩ := HPt.out rfl
                injection hq1 with hq1 hq2 hq3 hq4
                subst hq1 hq2 hq3 hq4
                obtain ⟨s0, s1, s2, s3⟩ := S13
                obtain ⟨t0, t1, t2, t3⟩ := T13
                have hrun : ∀ w, (Op.equalIn 10000 76 (.agg #[.int .i64 a', .int .i64 (-x), .int .i64 p', .int .i64 (-z)]) (.agg #[.int .i64 a', .int .i64 (-x), .int .i64 p', .int .i64 (-z)])).run Try.prog w = .ok true w := fun w => by
                  rw [run_mx_eq, M4.eqB_iff.2 rfl]
                clear HPt
                go_wp2
                clear s0 s1 s2 s3 t0 t1 t2 t3 hrun
                go_roundw
                case rel => exact ⟨d + 1, by omega, by omega, by go_num, HE.out⟩
                case measure => simp [intOf]; omega
            · have j1 : ¬ (d : Int) < (l.length : Int) := by omega
              have HE := Lib.hid hd
              clear hS hd hb1 HS10 HD10 HB110
              go_wp2_with fail
              go_meet
              exact HE.out
        · have i1 : ¬ (1 : Int) < (l.length : Int) := by omega
          clear s0 s1 s2 s3
          go_wp2_with fail
          go_meet
          exact HD7.out
    case rest =>
      clear HM HK Hs Hlc hKK hrun t0 t1 t2 t3 s0 s1 s2 s3 S HD5 HB15
      obtain ⟨v0, hv0⟩ : ∃ v0, v0 = wc := ⟨_, rfl⟩
      subst hv0
      have HD := Lib.hid (spec_DrawClosesUp A2 n2 c2 w.heap.size v0 (H2.out.below hcut) hcut.size (by omega))
      have Hcut := Lib.hid hcut
      clear hcut
      go_wp2_with fail
      refine HD.out.mono ?_
      rintro e v1 ⟨A, c, s, rfl, hl, hlc, hs, hd⟩
      have hd1 := below_kept Hcut.out (Nat.le_refl _) hd
      have Hs := Lib.hid hs
      have Hlc := Lib.hid hlc
      obtain ⟨G, hG⟩ : ∃ G, good s = G := ⟨_, rfl⟩
      obtain ⟨C, hC⟩ : ∃ C, clB s = C := ⟨_, rfl⟩
      have HI := Lib.hid (impl_clo A c _ s v1 hs (Nat.le_refl _) (by omega) hlc)
      rw [hG, hC] at HI
      have HG := Lib.hid hG
      have HC := Lib.hid hC
      have HD1 := Lib.hid hd1
      clear HD Hcut hs hlc hd hG hC hd1
      go_wp2_with fail
      refine HI.out.mono ?_
      rintro e v2 ⟨rfl, hb2⟩
      have hd2 := below_kept HD1.out (Nat.le_refl _) hb2
      have HJ := Lib.hid (spec_clo A c _ s v2 (Hs.out.below hb2) hb2.size (by omega) Hlc.out)
      rw [HG.out, HC.out] at HJ
      clear HI HD1
      go_wp2_with fail
      refine HJ.out.mono ?_
      rintro e v3 ⟨rfl, hb3⟩
      have hd3 := below_kept hd2 (Nat.le_refl _) hb3
      have hb13 := below_kept hb2 (Nat.le_refl _) hb3
      have HT := Lib.hid (impl_IsTermList A s.length c _ s v3 rfl (Hs.out.below hb13) (by omega))
      rw [HG.out] at HT
      have hGG : (G != G) = false := by simp
      have hCC : (C != C) = false := by simp
      clear HJ hb2 hb3 hd2
      go_wp2_with fail
      refine HT.out.mono ?_
      rintro e v4 ⟨rfl, rfl⟩
      clear HT
      cases G
      · go_wp2
        go_ret
        exact ⟨rfl, hd3⟩
      · have HQ := Lib.hid (impl_IsQuiddity A c _ s v3 (Hs.out.below hb13) hb13.size (by omega) Hlc.out)
        have HD3 := Lib.hid hd3
        have HB13 := Lib.hid hb13
        clear hGG hCC hd3 hb13
        go_wp2_with fail
        refine HQ.out.mono ?_
        rintro e v5 ⟨rfl, hb5⟩
        have hd5 := below_kept HD3.out (Nat.le_refl _) hb5
        have hb15 := below_kept HB13.out (Nat.le_refl _) hb5
        clear HQ HD3 HB13 hb5
        obtain ⟨Q, hQ⟩ : ∃ Q, isQ s = Q := ⟨_, rfl⟩
        rw [hQ]
        have HQ := Lib.hid hQ
        clear hQ
        have HD5 := Lib.hid hd5
        have HB15 := Lib.hid hb15
        have Hsm := Lib.hid (good_small HG.out)
        have hl10 : s.length ≤ 10 := (good_iff.1 HG.out).1
        have hsl := Hs.out.below hb15
        have HSL := Lib.hid hsl
        clear hd5 hb15 hsl hl Hs
        go_wp2
        go_loop [29, 31, 197] (fun P _ i => ∃ k : Nat, k ≤ s.length ∧ i = .int .i64 k ∧ P = .bool (posB s k)) (fun _ _ i => s.length - (intOf i).toNat)
        case atStart => exact ⟨0, Nat.zero_le _, rfl, by simp [posB]; omega⟩
        case round =>
          obtain ⟨k, hk, rfl, rfl⟩ := hrel
          by_cases hlt : k < s.length
          · obtain ⟨bl, off, rfl, _, hc⟩ := HSL.out (by omega)
            have g0 := hc k hlt
            have i0 : (0 : Int) ≤ (k : Int) := by omega
            have i1 : (k : Int) < (s.length : Int) := by omega
            have hp := posB_next hlt
            generalize s.getD k 0 = x at *
            generalize posB s k = P at *
            have Hp := Lib.hid hp
            clear hc hp
            cases P
            · go_wp2
              go_round
              case rel => exact ⟨k + 1, by omega, by go_num, by rw [Hp.out]; rfl⟩
              case measure => simp [intOf]; omega
            · go_wp2
              go_round
              case rel => exact ⟨k + 1, by omega, by go_num, by rw [Hp.out]; simp⟩
              case measure => simp [intOf]; omega
          · obtain rfl : k = s.length := by omega
            have HS := Lib.hid (laws_dSum A s.length c _ s v5 rfl HSL.out Hsm.out hl10)
            have hP : posB s s.length = true → 3 ≤ s.length ∧ ∀ x ∈ s, 1 ≤ x := posB_all
            have hsb := sumI_bd Hsm.out s.length (Nat.le_refl _)
            rw [List.take_length] at hsb
            have hQC : Q = true → C = true := fun h => by
              rw [← HC.out]
              exact clB_isQ HG.out (HQ.out.trans h)
            have hCQ : posB s s.length = true → sumI s = 3 * (s.length : Int) - 6 → C = true → Q = true := fun h1 h2 h3 => by
              rw [← HQ.out]
              exact isQ_clB (hP h1).1 (hP h1).2 (HC.out.trans h3) h2
            obtain ⟨P, hPe⟩ : ∃ P, posB s s.length = P := ⟨_, rfl⟩
            rw [hPe] at hCQ ⊢
            obtain ⟨u, hu⟩ : ∃ u, sumI s = u := ⟨_, rfl⟩
            rw [hu] at hsb HS hCQ
            obtain ⟨sb1, sb2⟩ := hsb
            have i2 : (s.length : Int) ≤ 10 := by omega
            have Hh1 := Lib.hid hP
            rw [hPe] at Hh1
            have Hh2 := Lib.hid hQC
            have Hh3 := Lib.hid hCQ
            clear hP hQC hCQ hPe hu
            go_upto_region 38 with fail
            go_cut [228] from 207 to 228 (fun v wx => v = .bool false ∧ wx = v5)
            case first =>
              cases P
              · cases Q
                · clear Hh2 Hh3
                  go_wp2_with fail
                  go_meet
                  exact ⟨rfl, rfl⟩
                · have hC := Hh2.out rfl
                  subst hC
                  go_wp2_with fail
                  go_meet
                  exact ⟨rfl, rfl⟩
              · cases Q
                · by_cases hE : u = 3 * (s.length : Int) - 6
                  · have hE2 : (u == 3 * (s.length : Int) - 6) = true := by simpa using hE
                    have hC : C = false := by
                      cases C
                      · rfl
                      · exact absurd (Hh3.out rfl hE rfl) (by simp)
                    subst hC
                    clear hE Hh2 Hh3
                    go_wp2_with fail
                    refine HS.out.mono ?_
                    rintro e v6 ⟨rfl, rfl⟩
                    go_wp2_with fail
                    go_meet
                    exact ⟨rfl, rfl⟩
                  · have hE2 : (u == 3 * (s.length : Int) - 6) = false := by simpa using hE
                    clear Hh2 Hh3
                    go_wp2_with fail
                    refine HS.out.mono ?_
                    rintro e v6 ⟨rfl, rfl⟩
                    go_wp2_with fail
                    go_meet
                    exact ⟨rfl, rfl⟩
                · have hC := Hh2.out rfl
                  subst hC
                  clear Hh2 Hh3
                  by_cases hE : u = 3 * (s.length : Int) - 6
                  · have hE2 : (u == 3 * (s.length : Int) - 6) = true := by simpa using hE
                    clear hE
                    go_wp2_with fail
                    refine HS.out.mono ?_
                    rintro e v6 ⟨rfl, rfl⟩
                    go_wp2_with fail
                    go_meet
                    exact ⟨rfl, rfl⟩
                  · have hE2 : (u == 3 * (s.length : Int) - 6) = false := by simpa using hE
                    go_wp2_with fail
                    refine HS.out.mono ?_
                    rintro e v6 ⟨rfl, rfl⟩
                    go_wp2_with fail
                    go_meet
                    exact ⟨rfl, rfl⟩
            case rest =>
              obtain ⟨rfl, rfl⟩ := hcut
              obtain ⟨wb, hwb⟩ : ∃ wb, wb = wc := ⟨_, rfl⟩
              subst hwb
              clear Hh1 Hh2 Hh3 HS sb1 sb2 H2 hn hl
              cases C
              · go_wp2
                go_ret
                exact ⟨rfl, HD5.out⟩
              · by_cases h0 : 0 < s.length
                · have i3 : (0 : Int) < (s.length : Int) := by omega
                  obtain ⟨bl, off, hA, hbl, hcl⟩ := HSL.out h0
                  subst hA
                  have g0 := hcl 0 h0
                  rw [Nat.add_zero] at g0
                  have i4 : (1 : Int) ≤ (s.length : Int) := by omega
                  have i5 : s.length ≤ c := Hlc.out
                  have i6 : 1 ≤ s.length := h0
                  obtain ⟨A', hA', hsA⟩ : ∃ A', (if c = 1 then some (⟨bl, off, none⟩ : Addr) else some ⟨bl, off + 1, none⟩) = A' ∧ SlI wb v1.heap.size A' (s.drop 1) := by
                    refine ⟨_, rfl, ?_⟩
                    have := SlI.cutIf (a0 := ⟨bl, off, none⟩) HSL.out 1 (c := c) i5
                    by_cases hc1 : c = 1
                    · rw [if_pos hc1] at this ⊢; exact this
                    · rw [if_neg hc1] at this ⊢; exact this
                  have hvz : v1.heap.size ≤ wb.heap.size := HB15.out.size
                  have hbz : bl < wb.heap.size := by omega
                  have HoA : Hid ((wb.alloc (.cells #[] 3)).drew.ownsRow wb.heap.size 3 1 (.slice (some ⟨wb.heap.size, 0, none⟩) 0 0) 0 (ics [])) := Lib.hid ((own_madeI wb (Nat.le_refl _)).drew)
                  have HbA : Hid (Below wb.heap.size wb (wb.alloc (.cells #[] 3)).drew) := Lib.hid (((Below.refl _ _).alloc (Nat.le_refl _) _).drew)
                  have HsA : Hid (SlI (wb.alloc (.cells #[] 3)).drew v1.heap.size A' (s.drop 1)) := Lib.hid (hsA.below (HbA.out.mono hvz))
                  have HCt := Lib.hid (clB_turned HC.out h0)
                  have HCb := Lib.hid (clB_back HC.out)
                  obtain ⟨x, hx⟩ : ∃ x, s.getD 0 0 = x := ⟨_, rfl⟩
                  rw [hx] at g0 HCt
                  have k10 : s.length - 1 ≤ 1000000 := by omega
                  have kN : s.length - 1 = 0 + (s.length - 1) := (Nat.zero_add _).symm
                  have kM : s.length = s.length - 1 + 1 := by omega
                  have KN := Lib.hid kN
                  have KM := Lib.hid kM
                  have Kl : Hid ((s.drop 1).length = s.length - 1) := Lib.hid (by simp)
                  have HoB : Hid ((((wb.alloc (.cells #[] 3)).alloc (.cells #[.int .i64 x] 3)).drew).ownsRow wb.heap.size 3 1 (.slice (some ⟨wb.heap.size, 0, none⟩) 0 0) 0 (ics [])) := Lib.hid (((own_madeI wb (Nat.le_refl _)).alloc _).drew)
                  have HbB : Hid (Below wb.heap.size wb ((wb.alloc (.cells #[] 3)).alloc (.cells #[.int .i64 x] 3)).drew) := Lib.hid ((((Below.refl _ _).alloc (Nat.le_refl _) _).alloc (by simp) _).drew)
                  have HsB : Hid (SlI ((wb.alloc (.cells #[] 3)).alloc (.cells #[.int .i64 x] 3)).drew v1.heap.size A' (s.drop 1)) := Lib.hid (hsA.below (HbB.out.mono hvz))
                  have HxB : Hid ((((wb.alloc (.cells #[] 3)).alloc (.cells #[.int .i64 x] 3)).drew).cell? ⟨wb.heap.size + 1, 0, none⟩ = some (.int .i64 x)) := Lib.hid (by simp [go_sem])
                  have HoC : Hid ((((wb.alloc (.cells #[.int .i64 x] 3)).alloc (.cells #[] 3)).drew).ownsRow wb.heap.size 3 1 (.slice (some ⟨wb.heap.size + 1, 0, none⟩) 0 0) 0 (ics [])) := Lib.hid (by simpa using (own_madeI (B := wb.heap.size) (wb.alloc (.cells #[.int .i64 x] 3)) (by simp)).drew)
                  have HbC : Hid (Below wb.heap.size wb ((wb.alloc (.cells #[.int .i64 x] 3)).alloc (.cells #[] 3)).drew) := Lib.hid ((((Below.refl _ _).alloc (Nat.le_refl _) _).alloc (by simp) _).drew)
                  have HsC : Hid (SlI ((wb.alloc (.cells #[.int .i64 x] 3)).alloc (.cells #[] 3)).drew v1.heap.size A' (s.drop 1)) := Lib.hid (hsA.below (HbC.out.mono hvz))
                  have HxC : Hid ((((wb.alloc (.cells #[.int .i64 x] 3)).alloc (.cells #[] 3)).drew).cell? ⟨wb.heap.size, 0, none⟩ = some (.int .i64 x)) := Lib.hid (by simp [go_sem])
                  clear hcl hsA hx kN kM
                  go_upto_region 41 with fail
                  go_cut [32] from 235 to 243 (fun v wx => ∃ A7 c7, v = .slice A7 s.length c7 ∧ wx.ownsRow wb.heap.size 3 1 (.slice A7 s.length c7) s.length (ics (s.drop 1 ++ [x])) ∧ Below wb.heap.size wb wx)
                  case first =>
                    go_region_law (first
                      | (refine step_appendNI ((wb.alloc (.cells #[] 3)).drew) rfl (.tmp 235) (.tmp 237) rfl wb.heap.size (.slice (some ⟨wb.heap.size, 0, none⟩) 0 0) 0 [] rfl (by simp [Act.eval, Act.put]) HoA.out A' (s.length - 1) (c - 1) (s.drop 1) v1.heap.size (s.length - 1) KN.out (by simp [Act.eval, Act.put, hA']) Kl.out HsA.out (by decide) k10 HbA.out.size ?_
                         intro A5 c5 w5 own5 hg5
                         rw [List.nil_append] at own5
                         have hb5 := below_grown HbA.out hg5 (Nat.le_refl _) (above_blk (Nat.le_refl _))
                         have hc5 : w5.cell? ⟨bl, off, none⟩ = some (.int .i64 x) := cell_kept hb5 g0
                         have hz5 : bl < w5.heap.size := Nat.lt_of_lt_of_le hbz hb5.size
                         have HO5 := Lib.hid (own5.alloc (.cells #[.int .i64 x] 3))
                         have HS5 : Hid (SlI (w5.alloc (.cells #[.int .i64 x] 3)) (w5.heap.size + 1) (some ⟨w5.heap.size, 0, none⟩) [x]) := Lib.hid (SlI.cell1 (by simp [go_sem]) (by omega))
                         have Hz5 : Hid (wb.heap.size ≤ (w5.alloc (.cells #[.int .i64 x] 3)).heap.size) := Lib.hid (Nat.le_trans hb5.size (by simp))
                         have Hb5 : Hid (Below wb.heap.size wb (w5.alloc (.cells #[.int .i64 x] 3))) := Lib.hid (hb5.alloc hb5.size _)
                         clear hb5 hg5 own5)
                      | (refine step_appendNI (((wb.alloc (.cells #[] 3)).alloc (.cells #[.int .i64 x] 3)).drew) rfl (.tmp 235) (.tmp 237) rfl wb.heap.size (.slice (some ⟨wb.heap.size, 0, none⟩) 0 0) 0 [] rfl (by simp [Act.eval, Act.put]) HoB.out A' (s.length - 1) (c - 1) (s.drop 1) v1.heap.size (s.length - 1) KN.out (by simp [Act.eval, Act.put, hA']) Kl.out HsB.out (by decide) k10 HbB.out.size ?_
                         intro A5 c5 w5 own5 hg5
                         rw [List.nil_append] at own5
                         have hb5 := below_grown HbB.out hg5 (Nat.le_refl _) (above_blk (Nat.le_refl _))
                         have hcx : w5.cell? ⟨wb.heap.size + 1, 0, none⟩ = some (.int .i64 x) := (World.cell?_of_block (w := ((wb.alloc (.cells #[] 3)).alloc (.cells #[.int .i64 x] 3)).drew) (hg5.block (wb.heap.size + 1) (by simp) (by simp [Value.ownBlock]))).trans HxB.out
                         have HO6 := Lib.hid own5
                         have HS6 : Hid (SlI w5 (wb.heap.size + 2) (some ⟨wb.heap.size + 1, 0, none⟩) [x]) := Lib.hid (SlI.cell1 hcx (by omega))
                         have Hz6 : Hid (wb.heap.size ≤ w5.heap.size) := Lib.hid hb5.size
                         have Hb6 : Hid (Below wb.heap.size wb w5) := Lib.hid hb5
                         clear hb5 hg5 own5 hcx)
                      | (refine step_appendNI (((wb.alloc (.cells #[.int .i64 x] 3)).alloc (.cells #[] 3)).drew) rfl (.tmp 235) (.tmp 237) rfl wb.heap.size (.slice (some ⟨wb.heap.size + 1, 0, none⟩) 0 0) 0 [] rfl (by simp [Act.eval, Act.put]) HoC.out A' (s.length - 1) (c - 1) (s.drop 1) v1.heap.size (s.length - 1) KN.out (by simp [Act.eval, Act.put, hA']) Kl.out HsC.out (by decide) k10 HbC.out.size ?_
                         intro A5 c5 w5 own5 hg5
                         rw [List.nil_append] at own5
                         have hb5 := below_grown HbC.out hg5 (Nat.le_refl _) (above_blk (Nat.le_succ _))
                         have hcx : w5.cell? ⟨wb.heap.size, 0, none⟩ = some (.int .i64 x) := (World.cell?_of_block (w := ((wb.alloc (.cells #[.int .i64 x] 3)).alloc (.cells #[] 3)).drew) (hg5.block wb.heap.size (by simp; omega) (by simp [Value.ownBlock]))).trans HxC.out
                         have HO8 := Lib.hid own5
                         have HS8 : Hid (SlI w5 (wb.heap.size + 2) (some ⟨wb.heap.size, 0, none⟩) [x]) := Lib.hid (SlI.cell1 hcx (by omega))
                         have Hz8 : Hid (wb.heap.size ≤ w5.heap.size) := Lib.hid hb5.size
                         have Hb8 : Hid (Below wb.heap.size wb w5) := Lib.hid hb5
                         clear hb5 hg5 own5 hcx)
                      | (refine step_appendNI (w5.alloc (.cells #[.int .i64 x] 3)) rfl (.tmp 238) (.tmp 242) rfl wb.heap.size (.slice A5 (s.length - 1) c5) (s.length - 1) (s.drop 1) Kl.out (by simp [Act.eval, Act.put]) HO5.out (some ⟨w5.heap.size, 0, none⟩) 1 1 [x] (w5.heap.size + 1) s.length KM.out (by simp [Act.eval, Act.put]) rfl HS5.out k10 (by decide) Hz5.out ?_
                         intro A7 c7 w7 own7 hg7
                         have hb7 := below_grown Hb5.out hg7 (Nat.le_refl _) (fun k hk => (HO5.out.lt k hk).1)
                         have HF := Lib.hid (And.intro own7 hb7)
                         clear own7 hg7 hb7)
                      | (refine step_appendNI w5 rfl (.tmp 238) (.tmp 242) rfl wb.heap.size (.slice A5 (s.length - 1) c5) (s.length - 1) (s.drop 1) Kl.out (by simp [Act.eval, Act.put]) HO6.out (some ⟨wb.heap.size + 1, 0, none⟩) 1 1 [x] (wb.heap.size + 2) s.length KM.out (by simp [Act.eval, Act.put]) rfl HS6.out k10 (by decide) Hz6.out ?_
                         intro A7 c7 w7 own7 hg7
                         have hb7 := below_grown Hb6.out hg7 (Nat.le_refl _) (fun k hk => (HO6.out.lt k hk).1)
                         have HF := Lib.hid (And.intro own7 hb7)
                         clear own7 hg7 hb7)
                      | (refine step_appendNI w5 rfl (.tmp 238) (.tmp 242) rfl wb.heap.size (.slice A5 (s.length - 1) c5) (s.length - 1) (s.drop 1) Kl.out (by simp [Act.eval, Act.put]) HO8.out (some ⟨wb.heap.size, 0, none⟩) 1 1 [x] (wb.heap.size + 2) s.length KM.out (by simp [Act.eval, Act.put]) rfl HS8.out k10 (by decide) Hz8.out ?_
                         intro A7 c7 w7 own7 hg7
                         have hb7 := below_grown Hb8.out hg7 (Nat.le_refl _) (fun k hk => (HO8.out.lt k hk).1)
                         have HF := Lib.hid (And.intro own7 hb7)
                         clear own7 hg7 hb7))
                    all_goals
                      have HE := HF
                      go_wp2_with fail
                      go_meet
                      exact ⟨A7, c7, rfl, HE.out.1, HE.out.2⟩
                  case rest =>
                    obtain ⟨A7, c7, rfl, own7, hb7⟩ := hcut
                    have hd7 := below_kept HD5.out (Nat.le_refl _) hb7
                    have hb17 := below_kept HB15.out (Nat.le_refl _) hb7
                    have hlT : (s.drop 1 ++ [x]).length = s.length := by simp; omega
                    obtain ⟨w7, hw7⟩ : ∃ w7, w7 = wc := ⟨_, rfl⟩
                    subst hw7
                    have own7' : w7.ownsRow wb.heap.size 3 1 (.slice A7 (s.drop 1 ++ [x]).length c7) (s.drop 1 ++ [x]).length (ics (s.drop 1 ++ [x])) := by rw [hlT]; exact own7
                    have hIT := impl_clo A7 c7 w7.heap.size (s.drop 1 ++ [x]) w7 (SlI.of_own own7') (Nat.le_refl _) (by omega) (own_capI own7')
                    rw [hlT, HCt.out, (clB_iff.1 HCt.out).1] at hIT
                    have HIT := Lib.hid hIT
                    have HD7 := Lib.hid hd7
                    have HB17 := Lib.hid hb17
                    have hsl7 := HSL.out.below (hb7.mono hvz)
                    have HSL7 := Lib.hid hsl7
                    clear hA' k10 i3 i4 h0 hbl hbz KN KM Kl hk hlt HG HQ Hsm own7 own7' hb7 hd7 hb17 hlT hIT HD5 HB15 HoA HbA HsA HoB HbB HsB HxB HoC HbC HsC HxC g0 hsl7
                    go_wp2_with fail
                    refine HIT.out.mono ?_
                    rintro e w8 ⟨rfl, hb8⟩
                    have hd8 := below_kept HD7.out (Nat.le_refl _) hb8
                    have hv8 : v1.heap.size ≤ w7.heap.size := HB17.out.size
                    have HK := Lib.hid (laws_dBack (some ⟨bl, off, none⟩) c _ s w8 (HSL7.out.below (hb8.mono hv8)) (Nat.le_trans hv8 hb8.size) (by omega))
                    clear HIT HD7 HB17 hb8 HSL7
                    go_wp2_with fail
                    refine HK.out.mono ?_
                    rintro e w9 ⟨v, rfl, A9, c9, rfl, own9, hb9⟩
                    have hd9 := below_kept hd8 (Nat.le_refl _) hb9
                    have HIB := impl_clo A9 c9 w9.heap.size s.reverse w9 (SlI.of_own own9) (Nat.le_refl _) (by simp; omega) (own_capI own9)
                    rw [HCb.out, (clB_iff.1 HCb.out).1, List.length_reverse] at HIB
                    have HJB := Lib.hid HIB
                    clear HK own9 hb9 hd8 HIB
                    go_wp2_with fail
                    refine HJB.out.mono ?_
                    rintro e w10 ⟨rfl, hb10⟩
                    have hd10 := below_kept hd9 (Nat.le_refl _) hb10
                    clear HJB hb10 hd9
                    go_wp2
                    go_ret
                    exact ⟨rfl, hd10⟩
                · have i3 : ¬ (0 : Int) < (s.length : Int) := by omega
                  go_wp2
                  go_ret
                  exact ⟨rfl, HD5.out⟩
  · have hd := Below.refl w.heap.size w
    clear hb HB H1 H2
    go_wp2
    go_ret
    exact ⟨rfl, hd⟩
end Go.Proofs.Ytnoddecligmjbaa
