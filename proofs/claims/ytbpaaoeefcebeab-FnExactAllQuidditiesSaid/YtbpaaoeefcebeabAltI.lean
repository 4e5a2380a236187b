/- All triangulations: the program's. -/
import Derived.Test.YtbpaaoeefcebeabAltM
import Derived.Test.YtbpaaoeefcebeabDDB
import Derived.Test.YtbpaaoeefcebeabTriJ
import Derived.Test.YtbpaaoeefcebeabAppS
namespace Go.Proofs.Ytbpaaoeefcebeab
set_option linter.unusedVariables false
open Go.RowKit

theorem slices_CloneD0 (w : World) : Calls Try.prog 124 #[.slice none 0 0] w (GivD w []) := by
  have he : ∀ w : World, (binOp .eql 26 (.slice none 0 0) (.slice none 0 0)).run Try.prog w = .ok (.bool true) w := fun w => Lib.run_eql_slice_nil w 26 65 none 0 0 0 0 Try.underlying26
  have hE : GivD w [] (.returned (.slice none 0 0)) w := ⟨none, 0, rfl, World.ownsRow_nil _ _ _ _, Below.refl _ _⟩
  have HE := Lib.hid hE
  clear hE
  go_enter Try.func124, Try.ntmps124
  go_wp2
  go_ret
  exact HE.out
set_option maxRecDepth 100000 in
set_option maxHeartbeats 800000 in
theorem slices_CloneDD (A : Option Addr) (n c B : Nat) (l : List (Int × Int)) (w : World) (hl : l.length = n) (h : SlD w B A l) (hB : B ≤ w.heap.size) (h0 : n = 0 → A = none ∧ c = 0) (hn : n ≤ 1000000) :
    Calls Try.prog 124 #[.slice A n c] w (GivD w l) := by
  by_cases hz : n = 0
  · obtain ⟨rfl, rfl⟩ := h0 hz
    subst hz
    obtain rfl : l = [] := List.eq_nil_of_length_eq_zero hl
    exact slices_CloneD0 w
  clear h0
  obtain ⟨b, off, rfl, hb, hc⟩ := h (by omega)
  have he : ∀ w : World, (binOp .eql 26 (.slice (some ⟨b, off, none⟩) n c) (.slice none 0 0)).run Try.prog w = .ok (.bool false) w := fun w => Lib.run_eql_slice_nil w 26 65 (some ⟨b, off, none⟩) n c 0 0 Try.underlying26
  have own0 := own_made w (B := w.heap.size) (Nat.le_refl _)
  have hs : SlD (w.alloc (.cells #[] 65)) B (some ⟨b, off, none⟩) l := h.below (((Below.refl _ _).alloc (Nat.le_refl _) _).mono hB)
  have Hl := Lib.hid hl
  have Hs := Lib.hid hs
  clear hc h hl hs
  go_enter Try.func124, Try.ntmps124
  go_wp2_with (at_builtin; refine wpList_appendN _ rfl _ _ rfl w.heap.size (.slice (some ⟨w.heap.size, 0, none⟩) 0 0) 0 [] rfl rfl own0 (some ⟨b, off, none⟩) n c l B n (by omega) rfl Hl.out Hs.out (by omega) hn (by simp) ?_; intro A' c' w1 hown1 hgrow1)
  have hb1 : Below w.heap.size w w1 := ((Below.refl w.heap.size w).alloc (Nat.le_refl _) (.cells #[] 65)).grown hgrow1 (by simp) (above_blk (Nat.le_refl _))
  rw [List.nil_append] at hown1
  have hres : GivD w l (.returned (.slice A' n c')) w1 := ⟨A', c', by rw [Hl.out], by rw [Hl.out]; exact hown1, hb1⟩
  have Hres := Lib.hid hres
  clear hres hown1 hgrow1 hb1 own0
  go_wp2
  go_ret
  exact Hres.out

theorem sldA {w0 w : World} {B : Nat} {A : Option Addr} {l : List (Int × Int)} {p0 p1 : Addr} {v0 v1 : Value} (h : SlD w0 B A l) (hB : B ≤ w0.heap.size) (hS : w.cell? p0 = some v0 ∧ w.cell? p1 = some v1 ∧ Below w0.heap.size w0 w) : SlD w B A l := h.below (hS.2.2.mono hB)
theorem size2 {w1 w : World} {p0 p1 : Addr} {v0 v1 : Value} (h : w.cell? p0 = some v0 ∧ w.cell? p1 = some v1 ∧ Below w1.heap.size w1 w) : w1.heap.size ≤ w.heap.size := h.2.2.size
theorem own_oneDD (w : World) (v : Value) : (w.alloc (.cells #[v] 26)).ownsRow w.heap.size 26 1 (.slice (some ⟨w.heap.size, 0, none⟩) 1 1) 1 [v] := ⟨rfl, .inr ⟨w.heap.size, 1, #[v], rfl, Nat.le_refl _, heap_alloc_new w _, Nat.le_refl _, by decide, rfl, rfl⟩⟩
/-- one row in a new block -/
theorem OwnDD.single {w : World} {base : Nat} {v : Value} {l : List (Int × Int)} (h : w.ownsRow base 65 2 v l.length (dcs l)) (hb : base ≤ w.heap.size) : OwnDD (w.alloc (.cells #[v] 26)) base (some ⟨w.heap.size, 0, none⟩) 1 [v] [l] := by
  refine ⟨rfl, (own_oneDD w v).mono hb, fun j hj => ?_, fun i j hi hj hij => by simp at hi hj; omega⟩
  obtain rfl : j = 0 := by simpa using hj
  exact h.alloc _

def CompE (base : Nat) (w : World) (L : List (List (Int × Int))) (e : Ending) (w' : World) : Prop :=
  ∃ A c rs, e = .returned (.slice A L.length c) ∧ OwnDD w' base A c rs L ∧ Below w.heap.size w w'

set_option maxRecDepth 100000 in
set_option maxHeartbeats 6400000 in
theorem impl_completions (m : Nat) (hm : m ≤ 9) : ∀ (q : Nat) (r b : List (Int × Int)) (Ab : Option Addr) (cb lb : Nat) (Ar : Option Addr) (cr B base : Nat) (w : World), r.length = q → b.length = lb → lb ≤ m → (lb = 0 → Ab = none ∧ cb = 0) →
    SlD w B Ar r → B ≤ w.heap.size → w.ownsRow base 65 2 (.slice Ab lb cb) lb (dcs b) → base ≤ w.heap.size → (comp m r b).length ≤ 1000 → q ≤ 100 → q ≤ cr →
    Calls Try.prog 98 #[.int .i64 m, .slice Ab lb cb, .slice Ar q cr] w (CompE base w (comp m r b)) := by
  intro q
  induction q using Nat.strongRecOn with
  | _ q ih =>
  intro r b Ab cb lb Ar cr B base w hr hb hlm h0 hsl hB hown hbase hlen hq hqc
  have IH := Lib.hid ih
  have Hr := Lib.hid hr
  have Hb := Lib.hid hb
  have Hsl := Lib.hid hsl
  have Hown := Lib.hid hown
  have H0 := Lib.hid h0
  clear ih hr hb hsl hown h0
  by_cases hlb : lb = m
  · have hc : comp m r b = [b] := by unfold comp; rw [if_pos (Hb.out.trans hlb)]
    have hx : ((lb : Int) == (m : Int)) = true := by rw [beq_iff_eq]; omega
    clear hlb hlm
    have hE : CompE base w (comp m r b) (.returned (.slice (some ⟨w.heap.size, 0, none⟩) 1 1)) (w.alloc (.cells #[.slice Ab lb cb] 26)) := by
      rw [hc]
      refine ⟨_, 1, _, rfl, OwnDD.single ?_ hbase, (Below.refl _ _).alloc (Nat.le_refl _) _⟩
      have := Hown.out
      rw [← Hb.out] at this ⊢
      exact this
    have HE := Lib.hid hE
    clear hE hc
    go_enter Try.func98, Try.ntmps98
    go_wp2
    go_ret
    exact HE.out
  · have hx : ((lb : Int) == (m : Int)) = false := by rw [beq_eq_false_iff_ne]; omega
    have hc : comp m r b = compL m r b := by unfold comp; rw [if_neg (by rw [Hb.out]; exact hlb)]
    rw [hc] at hlen ⊢
    obtain ⟨R, hR⟩ : ∃ R, compL m r b = R := ⟨_, rfl⟩
    rw [hR] at hlen ⊢
    have HR := Lib.hid hR
    have Hlen := Lib.hid hlen
    clear hc hR hlen
    go_enter Try.func98, Try.ntmps98
    go_wp2
    go_loopw [7, 8, 9, 10, 19] (fun al _ _ _ i wr => ∃ (k : Nat) (A' : Option Addr) (c' : Nat) (rs : List Value) (Ls : List (List (Int × Int))), k ≤ q ∧ i = .int .i64 k ∧ al = .slice A' Ls.length c' ∧ Ls ++ compL m (r.drop k) b = R ∧ OwnDD wr w.heap.size A' c' rs Ls ∧ Below w.heap.size w wr) (fun _ _ _ _ i _ => q - (intOf i).toNat)
    case atStart => exact ⟨0, none, 0, [], [], Nat.zero_le _, rfl, rfl, by rw [List.drop_zero, List.nil_append]; exact HR.out, OwnDD.nil_, Below.refl _ _⟩
    case round =>
      obtain ⟨k, A', c', rs, Ls, hk, rfl, rfl, hLs, ho, hb⟩ := hrel
      have hsz := hb.size
      by_cases hlt : k < q
      · have hkr : k < r.length := by rw [Hr.out]; exact hlt
        obtain ⟨b0, off, rfl, hbB, hc⟩ := Hsl.out.below (hb.mono hB) (by have := Hr.out; omega)
        obtain ⟨g0, g1⟩ := hc k hkr
        have i0 : (0 : Int) ≤ (k : Int) := by omega
        have i1 : (k : Int) < (q : Int) := by omega
        have hmiss := fun h => compL_miss (m := m) (r := r) (b := b) hkr h
        have hhit := fun h => compL_hit (m := m) (r := r) (b := b) hkr h
        generalize hd : r.getD k (0, 0) = d at *
        obtain ⟨u, v⟩ := d
        dsimp only at g0 g1
        have Hmiss := Lib.hid hmiss
        have Hhit := Lib.hid hhit
        have HLs := Lib.hid hLs
        have Ho := Lib.hid (ho.alloc (.cells #[.int .i64 u, .int .i64 v] 65))
        have Hd := Lib.hid (hb.alloc hsz (.cells #[.int .i64 u, .int .i64 v] 65))
        clear ho hb hc hmiss hhit hd hLs
        have HsC := Lib.hid ((SlD.of_own Hown.out).below Hd.out)
        have hblk := Ho.out.blk
        have Hblk := Lib.hid hblk
        clear hblk
        go_wp2_with fail
        refine (impl_crossesAny_n u v Ab lb cb w.heap.size b _ Hb.out HsC.out Hd.out.size (by omega)).mono ?_
        rintro e w1 ⟨rfl, b1⟩
        have Ho1 := Lib.hid (Ho.out.kept b1)
        have Hd1 := Lib.hid (below_kept Hd.out (Nat.le_refl _) b1)
        have q0 : w1.cell? ⟨wr.heap.size, 0, none⟩ = some (.int .i64 u) := cell_kept b1 (World.cell?_alloc_new wr _ _ 0)
        have q1 : w1.cell? ⟨wr.heap.size, 1, none⟩ = some (.int .i64 v) := cell_kept b1 (World.cell?_alloc_new wr _ _ 1)
        have HsC1 := Lib.hid (HsC.out.below (b1.mono Hd.out.size))
        have z1 : w.heap.size ≤ w1.heap.size := Hd1.out.size
        have Hz2 := Lib.hid (show (wr.alloc (.cells #[.int .i64 u, .int .i64 v] 65)).heap.size ≤ w1.heap.size from b1.size)
        clear b1 Ho Hd HsC g0 g1
        cases hx : anyCross (u, v) b
        · have hL := Hhit.out hx
          have hlc : (comp m (r.drop (k + 1)) (b ++ [(u, v)])).length ≤ 1000 ∧ Ls.length + (comp m (r.drop (k + 1)) (b ++ [(u, v)])).length ≤ 1000 := by
            have h1 := congrArg List.length HLs.out
            have h2 := Hlen.out
            rw [hL] at h1
            simp only [List.length_append] at h1
            omega
          have hR2 : (Ls ++ comp m (r.drop (k + 1)) (b ++ [(u, v)])) ++ compL m (r.drop (k + 1)) b = R := by
            rw [List.append_assoc, ← hL]
            exact HLs.out
          have HL := Lib.hid hR2
          have Hlc := Lib.hid hlc
          have j0 : (0 : Int) ≤ (k : Int) + 1 := by omega
          have j1 : (k : Int) + 1 ≤ (q : Int) := by omega
          have j2 : (k : Int) + 1 ≤ (cr : Int) := by omega
          have hcq : k + 1 ≤ q := hlt
          have hdr : (r.drop (k + 1)).length = q - (k + 1) := by rw [List.length_drop, Hr.out]
          have Hdr := Lib.hid hdr
          clear hL hlc hR2 hx hdr Hmiss Hhit HLs
          go_wp2
          go_region_held3 (fun w' => w'.cell? ⟨wr.heap.size, 0, none⟩ = some (.int .i64 u) ∧ w'.cell? ⟨wr.heap.size, 1, none⟩ = some (.int .i64 v) ∧ Below w1.heap.size w1 w')
            (first
              | exact reheld q0 q1 (by assumption) hg6 (fun k hk => (own5.lt k hk).1)
              | exact kept2 (by assumption) hb5 (Nat.le_refl _)
              | exact kept2 (by assumption) ((Below.refl _ _).alloc (Nat.le_refl _) _) (Nat.le_refl _)
              | exact ⟨q0, q1, (Below.refl _ _).drew⟩)
            (first
              | (go_at_call 124; refine (slices_CloneDD Ab lb cb w.heap.size b _ Hb.out ?_ ?_ H0.out (by omega)).mono ?_
                 · exact sldA HsC1.out z1 (by assumption)
                 · exact sz2 z1 (by assumption)
                 rintro e w5 ⟨A2, c2, rfl, own5, hb5⟩
                 rw [Hb.out] at own5 ⊢
                 replace own5 := own5.mono (size2 (by assumption)))
              | (refine step_appendN _ rfl _ _ rfl w1.heap.size (.slice A2 lb c2) lb b Hb.out rfl ?_ (some ⟨w5.heap.size, 0, none⟩) 1 1 [(u, v)] (w5.heap.size + 1) (lb + 1) rfl rfl rfl ?_ ?_ ?_ ?_ ?_
                 · exact own5.alloc _
                 · exact SlD.one (by simp [go_sem]) (by simp [go_sem]) (Nat.lt_succ_self _)
                 · omega
                 · omega
                 · exact size2 (by assumption)
                 intro A3 c3 w6 own6 hg6)
              | (refine step_appendN _ rfl _ _ rfl w1.heap.size (.slice A2 lb c2) lb b Hb.out rfl ?_ (some ⟨w1.heap.size, 0, none⟩) 1 1 [(u, v)] (w1.heap.size + 1) (lb + 1) rfl rfl rfl ?_ ?_ ?_ ?_ ?_
                 · exact own5
                 · exact SlD.one (cell_kept hb5 (by simp [go_sem])) (cell_kept hb5 (by simp [go_sem])) (Nat.lt_succ_self _)
                 · omega
                 · omega
                 · exact size2 (by assumption)
                 intro A3 c3 w6 own6 hg6))
          all_goals
            rename_i hT
            have hd6 := hT.2.2
            have HO6 := Lib.hid (Ho1.out.kept hd6)
            have Hd6 := Lib.hid (below_kept Hd1.out (Nat.le_refl _) hd6)
            have hsl6 := Hsl.out.below (Hd6.out.mono hB)
            have hzz : w1.heap.size ≤ w6.heap.size := hd6.size
            have hB6 : B ≤ w6.heap.size := Nat.le_trans hB Hd6.out.size
            have Hcut := Lib.hid (hsl6.drop (k + 1))
            have Hb6 := Lib.hid (show (b ++ [(u, v)]).length = lb + 1 by rw [List.length_append, Hb.out]; rfl)
            have hadd : off + (k + 1) * 2 = off + k * 2 + 2 := by omega
            have hih : ∀ (Ar : Option Addr) (q' cr' : Nat), q' = q - (k + 1) → cr' = cr - (k + 1) → SlD w6 B Ar (r.drop (k + 1)) → Calls Try.prog 98 #[.int .i64 m, .slice A3 (lb + 1) c3, .slice Ar q' cr'] w6 (CompE w1.heap.size w6 (comp m (r.drop (k + 1)) (b ++ [(u, v)]))) := fun Ar q' cr' e1 e2 hs =>
              IH.out q' (by omega) (r.drop (k + 1)) (b ++ [(u, v)]) A3 c3 (lb + 1) Ar cr' B w1.heap.size w6 (by rw [Hdr.out, e1]) Hb6.out (by omega) (by omega) hs hB6 own6 hzz Hlc.out.1 (by omega) (by omega)
            have Hih := Lib.hid hih
            have Hlc2 := Lib.hid Hlc.out.2
            clear hT hd6 own6 hg6 own5 hb5 hsl6 hih q0 q1
            by_cases hcc : cr = k + 1
            · subst hcc
              have hnil : r.drop (k + 1) = [] := List.eq_nil_of_length_eq_zero (by rw [Hdr.out]; omega)
              have Hc := Lib.hid (Hih.out (some ⟨b0, off, none⟩) 0 0 (by omega) (by omega) (by rw [hnil]; exact SlD.nil_))
              clear hnil
              go_wp2_with fail
              refine Hc.out.mono ?_
              rintro e w7 ⟨A7, c7, rs7, rfl, o7, b7⟩
              have hO7 := HO6.out.kept b7
              have Hd7 := Lib.hid (below_kept Hd6.out (Nat.le_refl _) b7)
              have Hold := Lib.hid (show ∀ j, j < Ls.length → ∀ k, (rvD rs j).ownBlock = some k → k < w1.heap.size from fun j hj k hk => Nat.lt_of_lt_of_le (Hblk.out j hj k hk) Hz2.out)
              generalize comp m (r.drop (k + 1)) (b ++ [(u, v)]) = C at *
              have hcl : C.length ≤ 1000000 := by have := Hlc.out.1; omega
              have hll : Ls.length ≤ 1000000 := by have := Hlc.out.2; omega
              have HO7 := Lib.hid hO7
              have O7 := Lib.hid o7
              have own7 := hO7.2.1
              have own77 := o7.2.1
              have one7 := o7.one
              have z7 := Hd7.out.size
              clear hO7 o7 b7 Hc Hih Hcut
              go_wp2_with (at_builtin; refine wpList_appendDD _ rfl _ _ rfl w.heap.size (.slice A' Ls.length c') Ls.length rs rfl own7 w1.heap.size A7 C.length c7 rs7 rfl own77 one7 hll hcl z7 ?_; intro A8 c8 w8 o8 g8)
              have hO8 := OwnDD.cat w1.heap.size HO7.out Hold.out (O7.out.mono z1) O7.out.low o8 g8
              have hb8 := below_grown Hd7.out g8 (Nat.le_refl _) (fun k hk => (own7.lt k hk).1)
              have HO8 := Lib.hid hO8
              have Hb8 := Lib.hid hb8
              clear hO8 hb8 o8 g8 own7 own77 one7
              go_wp2
              go_roundw
              case rel => exact ⟨k + 1, A8, c8, _, Ls ++ C, by omega, by go_num, by rw [List.length_append], HL.out, HO8.out, Hb8.out⟩
              case measure => simp [intOf]; omega
            · have Hc := Lib.hid (Hih.out (some ⟨b0, off + (k + 1) * 2, none⟩) (q - (k + 1)) (cr - (k + 1)) rfl rfl Hcut.out)
              rw [hadd] at Hc
              go_wp2_with fail
              refine Hc.out.mono ?_
              rintro e w7 ⟨A7, c7, rs7, rfl, o7, b7⟩
              have hO7 := HO6.out.kept b7
              have Hd7 := Lib.hid (below_kept Hd6.out (Nat.le_refl _) b7)
              have Hold := Lib.hid (show ∀ j, j < Ls.length → ∀ k, (rvD rs j).ownBlock = some k → k < w1.heap.size from fun j hj k hk => Nat.lt_of_lt_of_le (Hblk.out j hj k hk) Hz2.out)
              generalize comp m (r.drop (k + 1)) (b ++ [(u, v)]) = C at *
              have hcl : C.length ≤ 1000000 := by have := Hlc.out.1; omega
              have hll : Ls.length ≤ 1000000 := by have := Hlc.out.2; omega
              have HO7 := Lib.hid hO7
              have O7 := Lib.hid o7
              have own7 := hO7.2.1
              have own77 := o7.2.1
              have one7 := o7.one
              have z7 := Hd7.out.size
              clear hO7 o7 b7 Hc Hih Hcut
              go_wp2_with (at_builtin; refine wpList_appendDD _ rfl _ _ rfl w.heap.size (.slice A' Ls.length c') Ls.length rs rfl own7 w1.heap.size A7 C.length c7 rs7 rfl own77 one7 hll hcl z7 ?_; intro A8 c8 w8 o8 g8)
              have hO8 := OwnDD.cat w1.heap.size HO7.out Hold.out (O7.out.mono z1) O7.out.low o8 g8
              have hb8 := below_grown Hd7.out g8 (Nat.le_refl _) (fun k hk => (own7.lt k hk).1)
              have HO8 := Lib.hid hO8
              have Hb8 := Lib.hid hb8
              clear hO8 hb8 o8 g8 own7 own77 one7
              go_wp2
              go_roundw
              case rel => exact ⟨k + 1, A8, c8, _, Ls ++ C, by omega, by go_num, by rw [List.length_append], HL.out, HO8.out, Hb8.out⟩
              case measure => simp [intOf]; omega
        · have hL := Hmiss.out hx
          have hR2 : Ls ++ compL m (r.drop (k + 1)) b = R := by
            rw [← hL]
            exact HLs.out
          have HL := Lib.hid hR2
          clear hL hR2 hx Hmiss Hhit HLs
          go_wp2
          go_roundw
          case rel => exact ⟨k + 1, A', c', rs, Ls, by omega, by go_num, rfl, HL.out, Ho1.out, Hd1.out⟩
          case measure => simp [intOf]; omega
      · obtain rfl : k = q := by omega
        have hE : Ls = R := by
          have := hLs
          rw [← Hr.out, compL_end, List.append_nil] at this
          exact this
        have hE2 : CompE base w R (.returned (.slice A' Ls.length c')) wr := by
          rw [← hE]
          exact ⟨A', c', rs, rfl, ho.mono hbase, hb⟩
        have HE := Lib.hid hE2
        clear hE2 hE ho hb hLs
        go_wp2
        go_ret
        exact HE.out
end Go.Proofs.Ytbpaaoeefcebeab
