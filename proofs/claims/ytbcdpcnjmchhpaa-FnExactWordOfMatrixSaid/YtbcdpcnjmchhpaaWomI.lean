/- The program's WordOfMatrix. -/
import Derived.Test.YtbcdpcnjmchhpaaWomS
import Derived.Test.YtbcdpcnjmchhpaaAppI
import Derived.Laws.IdiomStrings
import Derived.Deep.DeepCutAuto
namespace Go.Proofs.Ytbcdpcnjmchhpaa
set_option linter.unusedVariables false
open Go.RowKit

theorem impl_firstLetter_r (a b c d : Int) (w : World) (h1 : c ≤ a) (h2 : d ≤ b) : Calls Try.prog 85 #[.agg #[.int .i64 a, .int .i64 b, .int .i64 c, .int .i64 d]] w fun e w' => e = .returned (.int .u8 114) ∧ Below w.heap.size w w' := by
  go_enter Try.func85, Try.ntmps85
  go_wp2
  go_ret
  exact ⟨rfl, (Below.refl _ _).alloc (Nat.le_refl _) _⟩
theorem impl_firstLetter_l (a b c d : Int) (w : World) (h : ¬(c ≤ a ∧ d ≤ b)) : Calls Try.prog 85 #[.agg #[.int .i64 a, .int .i64 b, .int .i64 c, .int .i64 d]] w fun e w' => e = .returned (.int .u8 108) ∧ Below w.heap.size w w' := by
  by_cases h1 : c ≤ a
  · have h2 : ¬d ≤ b := fun e => h ⟨h1, e⟩
    clear h
    go_enter Try.func85, Try.ntmps85
    go_wp2
    go_ret
    exact ⟨rfl, (Below.refl _ _).alloc (Nat.le_refl _) _⟩
  · clear h
    go_enter Try.func85, Try.ntmps85
    go_wp2
    go_ret
    exact ⟨rfl, (Below.refl _ _).alloc (Nat.le_refl _) _⟩
theorem impl_let_l (w : World) : Calls Try.prog 86 #[.int .u8 108] w fun e w' => e = .returned (.tuple #[.agg #[.int .i64 1, .int .i64 0, .int .i64 1, .int .i64 1], .bool true]) ∧ Below w.heap.size w w' := by
  have hd2 := Lib.hid (fun o => (Below.refl w.heap.size w).alloc (Nat.le_refl _) o)
  go_enter Try.func86, Try.ntmps86
  go_wp2
  refine bodyPost_ret (v := .tuple #[.agg #[.int .i64 1, .int .i64 0, .int .i64 1, .int .i64 1], .bool true]) (by simp [results, Try.results86, go_sem]) rfl ⟨rfl, ?_⟩
  exact hd2.out _
theorem impl_let_r (w : World) : Calls Try.prog 86 #[.int .u8 114] w fun e w' => e = .returned (.tuple #[.agg #[.int .i64 1, .int .i64 1, .int .i64 0, .int .i64 1], .bool true]) ∧ Below w.heap.size w w' := by
  have hd2 := Lib.hid (fun o => (Below.refl w.heap.size w).alloc (Nat.le_refl _) o)
  go_enter Try.func86, Try.ntmps86
  go_wp2
  refine bodyPost_ret (v := .tuple #[.agg #[.int .i64 1, .int .i64 1, .int .i64 0, .int .i64 1], .bool true]) (by simp [results, Try.results86, go_sem]) rfl ⟨rfl, ?_⟩
  exact hd2.out _

def ubs (L : List UInt8) : List Value := L.map fun x => .int .u8 (x.toNat : Int)
theorem ubs_length (L : List UInt8) : (ubs L).length = L.length := by simp [ubs]
theorem ubs_snoc (L : List UInt8) (y : UInt8) : ubs L ++ [.int .u8 (y.toNat : Int)] = ubs (L ++ [y]) := by simp [ubs]
theorem infoU : (Try.prog.info? 5).map (fun i => (i.zero, i.size, i.bytes)) = some (some (.int .u8 0), 1, 1) := by kernel_rfl
theorem append1U {ops : Array Oper} {rest : List Oper} {o : Oper} {a : Act} {Q : Exit → Act → World → Prop} (w : World) (hgd : o.guard = none) (s x : Operand) (ho : o.op = .call { callee := .builtin .append, args := #[s, x], argTypes := #[89, 89] })
    (base : Nat) (v : Value) (n : Nat) (L : List UInt8) (hn : L.length = n) (hs : a.eval s = v) (hown : w.ownsRow base 5 1 v n (ubs L)) (g : Nat) (y : UInt8) (z : Int) (hz : z = (y.toNat : Int)) (hx : a.eval x = .slice (some ⟨g, 0, none⟩) 1 1)
    (hc : w.cell? ⟨g, 0, none⟩ = some (.int .u8 z)) (hlen : n ≤ 1000000) (hbase : base ≤ w.heap.size)
    (h : ∀ A' c' w', w'.ownsRow base 5 1 (.slice A' (n + 1) c') (n + 1) (ubs (L ++ [y])) → w.grownBy w' v.ownBlock → wpList Try.prog ops Q rest (a.put o.dst (.slice A' (n + 1) c')) w') :
    wpList Try.prog ops Q (o :: rest) a w := by
  subst hz
  obtain ⟨i0, hi, hz0, hz1, hz2⟩ := info_parts infoU
  refine wpList_append_own w hgd s x 89 ho base 5 i0 (.int .u8 0) 1 1 Try.underlying89 hi hz0 hz1 hz2 rfl (by decide) v n (ubs L) hs hown ⟨g, 0, none⟩ 1 1 [.int .u8 (y.toNat : Int)] hx rfl ?_ ?_ ?_ ?_ hbase ?_
  · intro j u hu
    match j, hu with
    | 0, hu =>
      rw [Addr.add_zero', hc]
      simpa using hu
  · intro u hu
    simp at hu
    subst hu
    rfl
  · unfold maxLen; omega
  · omega
  · intro v' w' hown' hg _
    rw [ubs_snoc] at hown'
    obtain ⟨A', c', rfl⟩ := own_form hown'
    exact h A' c' w' hown' hg
/-- letters made a text -/
theorem run_text {w : World} {base n c : Nat} {A : Option Addr} {L : List UInt8} (hn : L.length = n) (h : w.ownsRow base 5 1 (.slice A n c) n (ubs L)) : (convert 89 9 (.slice A n c)).run Try.prog w = .ok (.string (bsL L)) w := by
  rcases Nat.eq_zero_or_pos n with h0 | h0
  · subst h0
    have : L = [] := List.length_eq_zero_iff.1 hn
    subst this
    cases A with
    | none => rw [run_convert_bytes_string w _ _ 5 none 0 c Try.underlying89 (by kernel_rfl) (by kernel_rfl)]; rfl
    | some a => exact run_convert_bytes_back w _ _ 5 a c [] Try.underlying89 (by kernel_rfl) (by kernel_rfl) (fun j hj => by simp at hj)
  · obtain ⟨g, cap, hv, hb, hlt⟩ := h.form h0
    cases hv
    subst hn
    exact run_convert_bytes_back w _ _ 5 ⟨g, 0, none⟩ c L Try.underlying89 (by kernel_rfl) (by kernel_rfl) (fun j hj => by
      rw [Addr.add_lit, Nat.zero_add, h.cellAt j (by omega)]
      simp [ubs, hj])

/-- the least of four is below 0 where one of them is -/
theorem run_min4 (a b c d : Int) : ∃ z : Int, (z < 0 ↔ (a < 0 ∨ b < 0 ∨ c < 0 ∨ d < 0)) ∧ ∀ w : World, (Builtin.min_ #[3, 3, 3, 3] 3 #[.int .i64 a, .int .i64 b, .int .i64 c, .int .i64 d]).run Try.prog w = .ok (.int .i64 z) w := by
  have h2 : ∀ (x y : Int), ∃ z : Int, (z = x ∧ ¬y < x ∨ z = y ∧ y < x) ∧ ∀ w : World, (Builtin.min2 (.int .i64 x) (.int .i64 y)).run Try.prog w = .ok (.int .i64 z) w := by
    intro x y
    refine ⟨if y < x then y else x, by split <;> omega, fun w => ?_⟩
    have := run_min_int2 (P := Try.prog) (w := w) #[3, 3] 3 .i64 .i64 x y
    simpa [Builtin.min_, Sem.run_bind] using this
  obtain ⟨z1, e1, h1⟩ := h2 a b
  obtain ⟨z2, e2, h3⟩ := h2 z1 c
  obtain ⟨z3, e3, h4⟩ := h2 z2 d
  refine ⟨z3, by omega, fun w => ?_⟩
  simp [Builtin.min_, List.foldlM, Sem.run_bind, h1, h3, h4, Result.andThen]

theorem impl_WordOfMatrix_no (a b c d : Int) (w : World) (h : womB a b c d = false) : Calls Try.prog 48 #[.agg #[.int .i64 a, .int .i64 b, .int .i64 c, .int .i64 d]] w (WomE (womR a b c d) w) := by
  have hR := womR_no h
  have hc := impl_IsMatrix a b c d
  have HR := Lib.hid hR
  clear hR
  go_enter Try.func48, Try.ntmps48
  go_wp2_with fail
  refine (hc _).mono ?_
  rintro e w1 ⟨rfl, hb1⟩
  have A := (Bx.new w 60 a b c d).kept hb1
  have hd := ((Below.refl w.heap.size w).alloc (Nat.le_refl _) _).trans (hb1.mono (by simp))
  have HE := Lib.hid (womE_no HR.out hd)
  clear hb1 hd hc
  obtain ⟨a0, a1, a2, a3⟩ := A
  unfold womB at h
  cases hm : mxB a b c d
  · clear h
    go_wp2
    go_ret2
    exact HE.out
  · rw [hm, Bool.true_and] at h
    have h' : ¬(0 ≤ a ∧ 0 ≤ b ∧ 0 ≤ c ∧ 0 ≤ d) := by simpa using h
    clear h
    obtain ⟨z, hz, hmin⟩ := run_min4 a b c d
    have hz0 : z < 0 := by omega
    clear hz h'
    go_wp2
    go_ret2
    exact HE.out
theorem grown_setW (w : World) (b i : Nat) (v : Value) : w.grownBy (w.setCell ⟨b, i, none⟩ v) (some b) :=
  ⟨rfl, rfl, rfl, by simp [World.setCell], fun k _ hk => Below.heap_setCell _ _ _ _ (fun e => hk (by simp [e]))⟩
theorem bx_grown {w w' : World} {g : Nat} {a b c d : Int} {row : Option Nat} (h : Bx w g a b c d) (hg : w.grownBy w' row) (hne : some g ≠ row) : Bx w' g a b c d :=
  ⟨(hg.cell_far ⟨g, 0, none⟩ h.lt hne).trans h.1, (hg.cell_far ⟨g, 1, none⟩ h.lt hne).trans h.2.1, (hg.cell_far ⟨g, 2, none⟩ h.lt hne).trans h.2.2.1, (hg.cell_far ⟨g, 3, none⟩ h.lt hne).trans h.2.2.2⟩
theorem fz_grown {w w' : World} {g : Nat} {row : Option Nat} (h : FzW w g) (hlt : g < w.heap.size) (hg : w.grownBy w' row) (hne : some g ≠ row) : FzW w' g :=
  ⟨(hg.frozen_far ⟨g, 0, none⟩ hlt hne).trans h.1, (hg.frozen_far ⟨g, 1, none⟩ hlt hne).trans h.2.1, (hg.frozen_far ⟨g, 2, none⟩ hlt hne).trans h.2.2.1, (hg.frozen_far ⟨g, 3, none⟩ hlt hne).trans h.2.2.2⟩
def putW (w : World) (g : Nat) (a b c d : Int) : World := (((w.setCell ⟨g, 0, none⟩ (.int .i64 a)).setCell ⟨g, 1, none⟩ (.int .i64 b)).setCell ⟨g, 2, none⟩ (.int .i64 c)).setCell ⟨g, 3, none⟩ (.int .i64 d)
theorem put_bx {w : World} {g : Nat} {a b c d : Int} (h : Bx w g a b c d) (e f i j : Int) : Bx (putW w g e f i j) g e f i j := by
  have hg := h.lt
  obtain ⟨h0, h1, h2, h3⟩ := h
  unfold putW Bx
  simp [go_sem, h0, h1, h2, h3]
theorem put_fz {w : World} {g : Nat} (h : FzW w g) (e f i j : Int) : FzW (putW w g e f i j) g := by
  obtain ⟨h0, h1, h2, h3⟩ := h
  unfold putW FzW
  simp [go_sem, h0, h1, h2, h3]
theorem put_grown (w : World) (g : Nat) (e f i j : Int) : w.grownBy (putW w g e f i j) (some g) :=
  (((grown_setW w g 0 _).trans (grown_setW _ g 1 _)).trans (grown_setW _ g 2 _)).trans (grown_setW _ g 3 _)

/-- the letter's inverse and the rest -/
theorem rest_r (a b c d : Int) (w : World) (h : M4.In ⟨a, b, c, d⟩ 1000000000) : Calls Try.prog 88 #[.agg #[.int .i64 1, .int .i64 (-1), .int .i64 (-0), .int .i64 1], .agg #[.int .i64 a, .int .i64 b, .int .i64 c, .int .i64 d]] w fun r w' =>
      r = .returned (.agg #[.int .i64 (a - c), .int .i64 (b - d), .int .i64 c, .int .i64 d]) ∧ Below w.heap.size w w' := by
  have := impl_times 1 (-1) (-0) 1 a b c d 1 1000000000 w (by unfold M4.In; dsimp only; omega) h (by omega)
  rw [show 1 * a + -1 * c = a - c by omega, show 1 * b + -1 * d = b - d by omega, show -0 * a + 1 * c = c by omega, show -0 * b + 1 * d = d by omega] at this
  exact this
theorem rest_l (a b c d : Int) (w : World) (h : M4.In ⟨a, b, c, d⟩ 1000000000) : Calls Try.prog 88 #[.agg #[.int .i64 1, .int .i64 (-0), .int .i64 (-1), .int .i64 1], .agg #[.int .i64 a, .int .i64 b, .int .i64 c, .int .i64 d]] w fun r w' =>
      r = .returned (.agg #[.int .i64 a, .int .i64 b, .int .i64 (c - a), .int .i64 (d - b)]) ∧ Below w.heap.size w w' := by
  have := impl_times 1 (-0) (-1) 1 a b c d 1 1000000000 w (by unfold M4.In; dsimp only; omega) h (by omega)
  rw [show 1 * a + -0 * c = a by omega, show 1 * b + -0 * d = b by omega, show -1 * a + 1 * c = c - a by omega, show -1 * b + 1 * d = d - b by omega] at this
  exact this
/-- what the letter does, in one: the letter, its square, its inverse, the rest -/
theorem letter_all {m : M4} (h : Nn m) (h1 : m.eqB M4.one = false) : ∃ (u : Int) (x0 x1 x2 x3 : Int) (y0 y1 y2 y3 : Int), u = (m.letter.toNat : Int) ∧
    (∀ w, Calls Try.prog 85 #[.agg #[.int .i64 m.a, .int .i64 m.b, .int .i64 m.c, .int .i64 m.d]] w fun e w' => e = .returned (.int .u8 u) ∧ Below w.heap.size w w') ∧
    (∀ w, Calls Try.prog 86 #[.int .u8 u] w fun e w' => e = .returned (.tuple #[.agg #[.int .i64 x0, .int .i64 x1, .int .i64 x2, .int .i64 x3], .bool true]) ∧ Below w.heap.size w w') ∧
    (∀ w, Calls Try.prog 87 #[.agg #[.int .i64 x0, .int .i64 x1, .int .i64 x2, .int .i64 x3]] w fun e w' => e = .returned (.agg #[.int .i64 y0, .int .i64 y1, .int .i64 y2, .int .i64 y3]) ∧ Below w.heap.size w w') ∧
    (∀ w, Calls Try.prog 88 #[.agg #[.int .i64 y0, .int .i64 y1, .int .i64 y2, .int .i64 y3], .agg #[.int .i64 m.a, .int .i64 m.b, .int .i64 m.c, .int .i64 m.d]] w fun e w' => e = .returned (.agg #[.int .i64 m.rest.a, .int .i64 m.rest.b, .int .i64 m.rest.c, .int .i64 m.rest.d]) ∧ Below w.heap.size w w') := by
  have hin : M4.In ⟨m.a, m.b, m.c, m.d⟩ 1000000000 := by
    obtain ⟨a0, b0, c0, d0, a9, b9, c9, d9, _⟩ := h
    unfold M4.In
    dsimp only
    omega
  cases hl : m.lowB
  · obtain ⟨h2, h3⟩ := nn_high h hl h1
    have er : m.rest = ⟨m.a - m.c, m.b - m.d, m.c, m.d⟩ := by unfold M4.rest; rw [hl]; rfl
    have el : m.letter = 114 := by unfold M4.letter; rw [hl]; rfl
    rw [er, el]
    exact ⟨114, 1, 1, 0, 1, 1, -1, -0, 1, rfl, fun w => impl_firstLetter_r _ _ _ _ w h2 h3, impl_let_r, fun w => impl_inverse 1 1 0 1 w (by omega) (by omega), fun w => rest_r _ _ _ _ w hin⟩
  · have hn := nn_low h hl
    have er : m.rest = ⟨m.a, m.b, m.c - m.a, m.d - m.b⟩ := by unfold M4.rest; rw [hl]; rfl
    have el : m.letter = 108 := by unfold M4.letter; rw [hl]; rfl
    rw [er, el]
    exact ⟨108, 1, 0, 1, 1, 1, -0, -1, 1, rfl, fun w => impl_firstLetter_l _ _ _ _ w hn, impl_let_l, fun w => impl_inverse 1 0 1 1 w (by omega) (by omega), fun w => rest_l _ _ _ _ w hin⟩

set_option maxRecDepth 100000 in
set_option maxHeartbeats 3200000 in
theorem impl_WordOfMatrix_yes (a b c d : Int) (w : World) (h : womB a b c d = true) : Calls Try.prog 48 #[.agg #[.int .i64 a, .int .i64 b, .int .i64 c, .int .i64 d]] w (WomE (womR a b c d) w) := by
  have hR := womR_yes h
  unfold womB at h
  rw [Bool.and_eq_true, decide_eq_true_eq] at h
  obtain ⟨hm, h0, h1, h2, h3⟩ := h
  have hn := nn_of hm ⟨h0, h1, h2, h3⟩
  have hc := impl_IsMatrix a b c d
  rw [hm] at hc
  obtain ⟨R, hRR⟩ : ∃ R, womR a b c d = R := ⟨_, rfl⟩
  rw [hRR] at hR ⊢
  have HR := Lib.hid hR
  have Hn := Lib.hid hn
  obtain ⟨z, hz, hmin⟩ := run_min4 a b c d
  have hz0 : ¬z < 0 := by omega
  have Hc := Lib.hid hc
  clear hR hn hm h0 h1 h2 h3 hRR hc hz
  go_enter Try.func48, Try.ntmps48
  go_wp2_with fail
  refine (Hc.out _).mono ?_
  rintro e w1 ⟨rfl, hb1⟩
  have A := (Bx.new w 60 a b c d).kept hb1
  have hd := ((Below.refl w.heap.size w).alloc (Nat.le_refl _) (.cells #[.int .i64 a, .int .i64 b, .int .i64 c, .int .i64 d] 60)).trans (hb1.mono (by simp))
  have Hd := Lib.hid hd
  clear hb1 hd Hc
  obtain ⟨a0, a1, a2, a3⟩ := A
  go_wp2_with fail
  refine (impl_squareOf a b c d _).mono ?_
  rintro e w2 ⟨rfl, hb2⟩
  have hd2 := below_kept Hd.out (Nat.le_refl _) hb2
  have hw2 := hd2.size
  obtain ⟨g, hg⟩ : ∃ g, g = w2.heap.size := ⟨_, rfl⟩
  obtain ⟨wz, hwz⟩ : ∃ wz, wz = w2.alloc (.cells #[.int .i64 a, .int .i64 b, .int .i64 c, .int .i64 d] 87) := ⟨_, rfl⟩
  have Q1 := Lib.hid (show Bx wz g a b c d by rw [hwz, hg]; exact Bx.new w2 _ a b c d)
  have Q2 := Lib.hid (show FzW wz g by rw [hwz, hg]; exact FzW.new w2 _ a b c d)
  have hdz := Lib.hid (show Below w.heap.size w wz by rw [hwz]; exact hd2.alloc hw2 _)
  have hgz : wz.heap.size = g + 1 := by rw [hwz, hg]; simp
  have hwg : w.heap.size ≤ g := by omega
  clear hb2 hd2 hw2 Hd hz0 hmin a0 a1 a2 a3
  go_wp2
  rw [← hwz, ← hg]
  clear hwz hg
  go_loopw [5] (fun v wr => ∃ (m : M4) (L : List UInt8) (A' : Option Addr) (c' n : Nat), L.length = n ∧ v = .slice A' n c' ∧ n ≤ 40 ∧ Nn m ∧ Bx wr g m.a m.b m.c m.d ∧ FzW wr g ∧ wr.ownsRow (g + 1) 5 1 (.slice A' n c') n (ubs L) ∧ Below w.heap.size w wr ∧ wds (40 - n) m L = R) (fun v _ => 40 - (match v with | .slice _ n _ => n | _ => 0))
  case atStart => exact ⟨⟨a, b, c, d⟩, [], none, 0, 0, rfl, rfl, by omega, Hn.out, Q1.out, Q2.out, World.ownsRow_nil _ _ _ _, hdz.out, HR.out.symm⟩
  case round =>
    clear Q1 Q2 hdz HR Hn hgz
    obtain ⟨m, L, A', c', n, hL, rfl, hn40, hn, hbx, hfz, ho, hb, hR⟩ := hrel
    have HL := Lib.hid hL
    have Hb := Lib.hid hb
    have Hn := Lib.hid hn
    have HR := Lib.hid hR
    have Hbx := Lib.hid hbx
    have Hfz := Lib.hid hfz
    have Ho := Lib.hid ho
    have hrun := run_sq_eq m.a m.b m.c m.d 1 0 0 1
    have he : M4.eqB ⟨m.a, m.b, m.c, m.d⟩ ⟨1, 0, 0, 1⟩ = m.eqB M4.one := rfl
    rw [he] at hrun
    clear hb hn hR he hfz hL ho
    obtain ⟨q0, q1, q2, q3⟩ := hbx
    have hy := Hbx.out.lt
    have hkeep : ∀ w', Below wr.heap.size wr w' → w'.cell? ⟨g, 0, none⟩ = some (.int .i64 m.a) ∧ w'.cell? ⟨g, 1, none⟩ = some (.int .i64 m.b) ∧ w'.cell? ⟨g, 2, none⟩ = some (.int .i64 m.c) ∧ w'.cell? ⟨g, 3, none⟩ = some (.int .i64 m.d) ∧ Below wr.heap.size wr w' := fun w' hw => ⟨cell_kept hw q0, cell_kept hw q1, cell_kept hw q2, cell_kept hw q3, hw⟩
    have Hkeep := Lib.hid hkeep
    have hone : ∀ w', (w'.cell? ⟨g, 0, none⟩ = some (.int .i64 m.a) ∧ w'.cell? ⟨g, 1, none⟩ = some (.int .i64 m.b) ∧ w'.cell? ⟨g, 2, none⟩ = some (.int .i64 m.c) ∧ w'.cell? ⟨g, 3, none⟩ = some (.int .i64 m.d) ∧ Below wr.heap.size wr w') → Calls Try.prog 84 #[] w' fun e w'' => e = .returned (.agg #[.int .i64 1, .int .i64 0, .int .i64 0, .int .i64 1]) ∧ (w''.cell? ⟨g, 0, none⟩ = some (.int .i64 m.a) ∧ w''.cell? ⟨g, 1, none⟩ = some (.int .i64 m.b) ∧ w''.cell? ⟨g, 2, none⟩ = some (.int .i64 m.c) ∧ w''.cell? ⟨g, 3, none⟩ = some (.int .i64 m.d) ∧ Below wr.heap.size wr w'') := fun w' hw => by
      refine (impl_unitSquare w').mono ?_
      rintro e w'' ⟨he, hb⟩
      exact ⟨he, hkeep _ (below_kept hw.2.2.2.2 (Nat.le_refl _) hb)⟩
    have Hone := Lib.hid hone
    clear hkeep hone
    go_wp2_with fail
    clear q0 q1 q2 q3
    go_region_held3 (fun w' => w'.cell? ⟨g, 0, none⟩ = some (.int .i64 m.a) ∧ w'.cell? ⟨g, 1, none⟩ = some (.int .i64 m.b) ∧ w'.cell? ⟨g, 2, none⟩ = some (.int .i64 m.c) ∧ w'.cell? ⟨g, 3, none⟩ = some (.int .i64 m.d) ∧ Below wr.heap.size wr w')
      (first | assumption | exact Hkeep.out _ (Below.refl _ _).drew)
      (first | (go_at_call 84; refine (Hone.out _ (by first | assumption | exact Hkeep.out _ (Below.refl _ _).drew)).mono ?_; rintro e w2 ⟨rfl, hS2⟩))
    rename_i hS
    obtain ⟨q0, q1, q2, q3, hb2⟩ := hS
    have HB2 := Lib.hid (below_kept Hb.out (Nat.le_refl _) hb2)
    have F2 := Lib.hid (Hfz.out.kept hy hb2)
    have B2 := Lib.hid (show Bx w2 g m.a m.b m.c m.d from ⟨q0, q1, q2, q3⟩)
    have O2 := Lib.hid (own_kept Ho.out hb2)
    have hy2 := B2.out.lt
    clear Hkeep Hone hb2 Hbx Hfz Ho Hb hy
    cases h1 : m.eqB M4.one
    · rw [h1] at hrun
      by_cases h40 : n = 40
      · have hR := HR.out
        rw [h40, wds_out h1] at hR
        have HE := Lib.hid (womE_no hR.symm HB2.out)
        have h40' : (n : Int) = 40 := by omega
        clear hR h1
        go_wp2
        go_ret2
        exact HE.out
      · have h40' : ¬(n : Int) = 40 := by omega
        have hR := HR.out
        rw [show 40 - n = (40 - (n + 1)) + 1 by omega, wds_next h1] at hR
        have HR1 := Lib.hid hR
        have Hn1 := Lib.hid (nn_rest Hn.out h1)
        obtain ⟨u, x0, x1, x2, x3, y0, y1, y2, y3, hu, K1, K2, K3, K4⟩ := letter_all Hn.out h1
        have Hu := Lib.hid hu
        have Hk1 := Lib.hid K1
        have Hk2 := Lib.hid K2
        have Hk3 := Lib.hid K3
        have Hk4 := Lib.hid K4
        clear hR HR K1 K2 K3 K4 hu h1 Hn
        go_wp2_with fail
        refine (Hk1.out _).mono ?_
        rintro e w3 ⟨rfl, hb3⟩
        clear Hk1
        go_wp2_with fail
        refine (Hk2.out _).mono ?_
        rintro e w4 ⟨rfl, hb4⟩
        have B3 := B2.out.kept hb3
        have B4 := Lib.hid (B3.kept hb4)
        have F4 := Lib.hid ((F2.out.kept hy2 hb3).kept B3.lt hb4)
        have O4 := Lib.hid (own_kept (own_kept O2.out hb3) hb4)
        have D4 := Lib.hid (below_kept (below_kept HB2.out (Nat.le_refl _) hb3) (Nat.le_refl _) hb4)
        have hy4 := B4.out.lt
        have hw4 := D4.out.size
        clear hb3 hb4 B3 B2 F2 O2 HB2 Hk2 hy2
        obtain ⟨g7, hg7⟩ : ∃ g7, g7 = w4.heap.size := ⟨_, rfl⟩
        obtain ⟨wS, hwS⟩ : ∃ wS, wS = w4.alloc (.cells #[.int .i64 x0, .int .i64 x1, .int .i64 x2, .int .i64 x3] 87) := ⟨_, rfl⟩
        have hsS : wS.heap.size = g7 + 1 := by rw [hwS, hg7]; simp
        obtain ⟨wU, hwU⟩ : ∃ wU, wU = wS.alloc (.cells #[.int .u8 u] 5) := ⟨_, rfl⟩
        have S7 := Lib.hid (show Bx wU g7 x0 x1 x2 x3 by rw [hwU, hwS, hg7]; exact (Bx.new w4 _ x0 x1 x2 x3).alloc _)
        have BU := Lib.hid (show Bx wU g m.a m.b m.c m.d by rw [hwU, hwS]; exact (B4.out.alloc _).alloc _)
        have hbS : Below w4.heap.size w4 wU := by rw [hwU, hwS]; exact below2 _ _ _
        have FU := Lib.hid (F4.out.kept hy4 hbS)
        have OU := Lib.hid (own_kept O4.out hbS)
        have DU := Lib.hid (below_kept D4.out (Nat.le_refl _) hbS)
        have cU : wU.cell? ⟨g7 + 1, 0, none⟩ = some (.int .u8 u) := by rw [hwU, ← hsS]; simp [go_sem]
        have hzU : wU.heap.size = g7 + 2 := by rw [hwU]; simp [hsS]
        have hlO := O4.out.lt
        have HlO : Hid (∀ k, (Value.slice A' n c').ownBlock = some k → g + 1 ≤ k ∧ k < g7) := Lib.hid (fun k hk => by have := hlO k hk; omega)
        have n6 : n ≤ 1000000 := by omega
        have hgU : g + 1 ≤ wU.heap.size := by omega
        have Hcu := Lib.hid cU
        have HD0 := Lib.hid hwg
        have hn39 : n < 40 := by omega
        clear hbS cU hlO hsS hzU hrun h40 h40' hn40 hw4
        subst hwU
        subst hwS
        subst hg7
        go_upto_region 11 with (at_builtin; refine append1U _ rfl _ _ rfl (g + 1) (.slice A' n c') n L HL.out rfl OU.out (w4.heap.size + 1) m.letter u Hu.out rfl Hcu.out n6 hgU ?_; intro A5 c5 w5 own5 hg5)
        have B5 := bx_grown BU.out hg5 (fun e => by have := HlO.out g e.symm; omega)
        have F5 := fz_grown FU.out BU.out.lt hg5 (fun e => by have := HlO.out g e.symm; omega)
        have S5 := bx_grown S7.out hg5 (fun e => by have := HlO.out _ e.symm; omega)
        have D5 := below_grown DU.out hg5 (Nat.le_refl _) (fun k hk => by have := (HlO.out k hk).1; have := HD0.out; omega)
        have O5 := own5
        have H5 := Lib.hid (And.intro B5 (And.intro F5 (And.intro D5 O5)))
        clear own5 hg5 BU FU S7 DU OU D5 O5 Hcu HlO n6 hgU B4 F4 O4 D4
        obtain ⟨q0, q1, q2, q3⟩ := B5
        obtain ⟨f0, f1, f2, f3⟩ := F5
        obtain ⟨s0, s1, s2, s3⟩ := S5
        go_region_with (first
          | (go_at_call 87; refine (Hk3.out _).mono ?_; rintro e6 w6 ⟨rfl, hb6⟩; (have Q6 := Lib.hid (Bx.kept (w := w5.drew) H5.out.1 hb6)); (have F6 := Lib.hid (FzW.kept (w := w5.drew) H5.out.2.1 H5.out.1.lt hb6)); obtain ⟨q60, q61, q62, q63⟩ := Q6.out)
          | (go_at_call 88; refine (Hk4.out _).mono ?_; rintro e8 w8 ⟨rfl, hb8⟩; (have Q8 := Lib.hid (Q6.out.kept hb8)); (have F8 := Lib.hid (F6.out.kept Q6.out.lt hb8)); obtain ⟨q80, q81, q82, q83⟩ := Q8.out; obtain ⟨f80, f81, f82, f83⟩ := F8.out))
        all_goals (
          have K1 := put_bx Q8.out m.rest.a m.rest.b m.rest.c m.rest.d
          have K2 := put_fz F8.out m.rest.a m.rest.b m.rest.c m.rest.d
          have KO := own_kept (own_kept (w := w5.drew) H5.out.2.2.2.drew hb6) hb8
          have K3 := own_far KO (put_grown w8 g m.rest.a m.rest.b m.rest.c m.rest.d) (fun k hk e => by have := (KO.lt k hk).1; injection e with e; omega)
          have K4 := below_grown (below_kept (below_kept (w := w5.drew) H5.out.2.2.1.drew (Nat.le_refl _) hb6) (Nat.le_refl _) hb8) (put_grown w8 g m.rest.a m.rest.b m.rest.c m.rest.d) (Nat.le_refl _) (fun k hk => by have := HD0.out; injection hk with hk; omega)
          have K := Lib.hid (And.intro K1 (And.intro K2 (And.intro K3 K4)))
          clear K1 K2 K3 K4 KO hb6 hb8
          have hL1 : (L ++ [m.letter]).length = n + 1 := by simp [HL.out]
          go_wp2
          go_roundw
          case rel => exact ⟨m.rest, L ++ [m.letter], A5, c5, n + 1, hL1, rfl, by omega, Hn1.out, K.out.1, K.out.2.1, K.out.2.2.1, K.out.2.2.2, HR1.out⟩
          case measure => simp; omega)
    · rw [h1] at hrun
      have hR := HR.out
      rw [wds_done h1] at hR
      have HE : Hid (WomE R w (.returned (.tuple #[.string (bsL L), .bool true])) w2) := Lib.hid (by rw [← hR]; exact ⟨rfl, HB2.out⟩)
      have hconv := run_text HL.out O2.out
      clear hR h1
      go_wp2
      go_ret2
      exact HE.out
end Go.Proofs.Ytbcdpcnjmchhpaa
