/- The program's cutApart: the pieces, or, recovered from a panic, none. -/
import Derived.Test.YtlnnnjnboknoeaaCutP
namespace Go.Proofs.Ytlnnnjnboknoeaa
set_option linter.unusedVariables false
open Go.RowKit

theorem assert_diag (x y : Int) (w : World) : (Instr.typeAssert (.iface 49 (.agg #[.int .i64 x, .int .i64 y])) 20 49 true).run Try.prog w = .ok (.tuple #[.agg #[.int .i64 x, .int .i64 y], .bool true]) w := by kernel_rfl
theorem assert_nil (w : World) : (Instr.typeAssert .nilIface 20 49 true).run Try.prog w = .ok (.tuple #[.agg #[.int .i64 0, .int .i64 0], .bool false]) w := by kernel_rfl
set_option maxRecDepth 100000 in
set_option maxHeartbeats 1600000 in
theorem catch_crossed (p : Addr) (x y : Int) (v0 : Value) (older : List PanicEntry) (w : World) (hc : w.cell? p = some v0) (hz : w.frozen? p = false) :
    CallsD Try.prog 93 #[.pointer (some p)] (.panicking ({ v := crP x y, recovered := false } :: older)) w fun e u' w' =>
      e = .returned (.tuple #[]) ∧ u' = .panicking ({ v := crP x y, recovered := true } :: older) ∧ w' = (w.alloc (.cells #[.int .i64 x, .int .i64 y] 49)).setCell p (.slice none 0 0) := by
  have hc1 : (w.alloc (.cells #[.int .i64 x, .int .i64 y] 49)).cell? p = some v0 := cell_kept ((Below.refl _ _).alloc (Nat.le_refl _) _) hc
  have hz1 : (w.alloc (.cells #[.int .i64 x, .int .i64 y] 49)).frozen? p = false := (((Below.refl w.heap.size w).alloc (Nat.le_refl _) _).frozen (World.block_lt_of_cell? w p hc)).trans hz
  have ha := assert_diag x y
  unfold crP at *
  refine callsD_of_wpS Try.func93 rfl fun c₀ cs hu => ?_
  apply wpS_seq
  apply wpS_region
  simp [wpOpsS, go_sem, recoverD, hu, Try.ntmps93, Exit.thenS, ha]
  apply wpS_seq
  apply wpS_region
  simp [wpOpsS, go_sem, Exit.thenS]
  refine wpS_cond (t := true) (by simp [Act.eval, Array.replicate]) ?_
  simp only [if_true]
  apply wpS_region
  simp [wpOpsS, go_sem, hc1, hz1, bodyPostS, results, Try.results93]
set_option maxRecDepth 100000 in
set_option maxHeartbeats 1600000 in
theorem catch_idle (p : Addr) (w : World) :
    CallsD Try.prog 93 #[.pointer (some p)] .returning w fun e u' w' => e = .returned (.tuple #[]) ∧ u' = .returning ∧ w' = w.alloc (.cells #[.int .i64 0, .int .i64 0] 49) := by
  have ha := assert_nil
  refine callsD_of_wpS Try.func93 rfl fun c₀ cs hu => ?_
  apply wpS_seq
  apply wpS_region
  simp [wpOpsS, go_sem, recoverD, hu, Try.ntmps93, Exit.thenS, ha]
  apply wpS_seq
  apply wpS_region
  simp [wpOpsS, go_sem, Exit.thenS]
  refine wpS_cond (t := false) (by simp [Act.eval, Array.replicate]) ?_
  simp only [Bool.false_eq_true, if_false]
  refine wpS_of_wp (wp_skip ?_)
  cases c₀
  simp_all [bodyPostS, results, Try.results93]

/-- what cutApart returns -/
def CaE (w : World) (O : Option (List (List Int))) (e : Ending) (w' : World) : Prop :=
  ∃ A c rs, e = .returned (.tuple #[.slice A (O.getD []).length c, .bool O.isSome]) ∧ OwnPS w' w.heap.size A c rs (O.getD []) ∧ Below w.heap.size w w' ∧ (O.isSome = false → A = none ∧ c = 0)
/-- one row alone -/
theorem OwnPS.one {w : World} {base g n : Nat} {L : List Int} (hn : L.length = n) (h : w.ownsRow base 3 1 (.slice (some ⟨g, 0, none⟩) n n) n (ics L)) (hb : base ≤ w.heap.size) :
    OwnPS (w.alloc (.cells #[.slice (some ⟨g, 0, none⟩) n n] 35)) base (some ⟨w.heap.size, 0, none⟩) 1 [.slice (some ⟨g, 0, none⟩) n n] [L] := by
  subst hn
  refine ⟨rfl, ?_, fun j hj => ?_, fun i j hi hj hij => ?_⟩
  · have := World.ownsRow_lit (e := 35) (size := 1) (base := base) w #[.slice (some ⟨g, 0, none⟩) L.length L.length] 1 hb (by decide) rfl
    exact this
  · obtain rfl : j = 0 := by simpa using hj
    exact (PcR.of_own h (Nat.le_refl _)).alloc _
  · simp at hi hj
    omega
/-- the box of the result -/
def BxS (w : World) (p : Nat) (v : Value) : Prop := w.cell? ⟨p, 0, none⟩ = some v ∧ w.frozen? ⟨p, 0, none⟩ = false
theorem BxS.kept {w w' : World} {p : Nat} {v : Value} (h : BxS w p v) (hb : Below (p + 1) w w') : BxS w' p v := ⟨(hb.cell (p := ⟨p, 0, none⟩) (Nat.lt_succ_self p)).trans h.1, (hb.frozen (p := ⟨p, 0, none⟩) (Nat.lt_succ_self p)).trans h.2⟩

theorem grown_setP (w : World) (b i : Nat) (v : Value) : w.grownBy (w.setCell ⟨b, i, none⟩ v) (some b) :=
  ⟨rfl, rfl, rfl, by simp [World.setCell], fun k _ hk => Below.heap_setCell _ _ _ _ (fun e => hk (by simp [e]))⟩
theorem BxS.set {w : World} {p : Nat} {v0 : Value} (h : BxS w p v0) (v : Value) : BxS (w.setCell ⟨p, 0, none⟩ v) p v :=
  ⟨World.cell?_setCell_same _ _ _ h.1, by simp [go_sem, h.2]⟩
theorem OwnPS.setBox {w : World} {p : Nat} {A : Option Addr} {c : Nat} {rs : List Value} {Ls : List (List Int)} (h : OwnPS w (p + 1) A c rs Ls) (v : Value) : OwnPS (w.setCell ⟨p, 0, none⟩ v) (p + 1) A c rs Ls := by
  have hg := grown_setP w p 0 v
  refine ⟨h.1, own_far h.2.1 hg (fun k hk e => ?_), fun j hj => (h.2.2.1 j hj).far hg (fun k hk e => ?_), h.2.2.2⟩
  · have h1 := (h.2.1.lt k hk).1
    have h2 : k = p := Option.some.inj e
    omega
  · have h1 := ((h.2.2.1 j hj).lt k hk).1
    have h2 : k = p := Option.some.inj e
    omega

set_option maxRecDepth 100000 in
set_option maxHeartbeats 3200000 in
theorem impl_cutApart (n : Nat) (A : Option Addr) (c B : Nat) (l : List (Int × Int)) (w : World) (n3 : 3 ≤ n) (n12 : n ≤ 12) (h : SlD w B A l) (hB : B ≤ w.heap.size) (ho : ordB (n : Int) l = true) (hl : l.length ≤ 1048576) :
    Calls Try.prog 56 #[.int .i64 n, .slice A l.length c] w (CaE w (cuts n l)) := by
  have hmf : ∀ (fn : Fn) (first cap : Array Value) (w : World), (Instr.makeFunc fn first cap).run Try.prog w = .ok (.func fn first cap) w := fun _ _ _ _ => rfl
  have Ho := Lib.hid ho
  have H := Lib.hid h
  clear ho h
  go_enter_defers Try.func56, Try.ntmps56
  go_wp2_with fail
  refine (impl_allCorners n _ (by omega)).mono ?_
  rintro e w2 ⟨rfl, own2, hb2⟩
  have e2 : (w.alloc (.cells #[.slice none 0 0] 29)).heap.size = w.heap.size + 1 := by simp
  rw [e2] at own2 hb2 ⊢
  have b2 := ((Below.refl w.heap.size w).alloc (Nat.le_refl _) (.cells #[.slice none 0 0] 29)).trans (hb2.mono (Nat.le_succ _))
  have p2 : BxS w2 w.heap.size (.slice none 0 0) := BxS.kept ⟨by simp [go_sem], by simp [go_sem]⟩ hb2
  have hs2 : w.heap.size + 1 ≤ w2.heap.size := by have := hb2.size; simpa using this
  have o3 := OwnPS.one (corI_length n) own2 hs2
  have p3 := p2.kept ((Below.refl (w.heap.size + 1) w2).alloc hs2 (.cells #[.slice (some ⟨w.heap.size + 1, 0, none⟩) n n] 35))
  have b3 := b2.alloc (Nat.le_trans (Nat.le_succ _) hs2) (.cells #[.slice (some ⟨w.heap.size + 1, 0, none⟩) n n] 35)
  have s3 : (w2.alloc (.cells #[.slice (some ⟨w.heap.size + 1, 0, none⟩) n n] 35)).heap.size = w2.heap.size + 1 := by simp
  clear own2 hb2 b2 p2 e2
  obtain ⟨p3c, p3f⟩ := p3
  go_wp2
  have o4 := o3.setBox (.slice (some ⟨w2.heap.size, 0, none⟩) 1 1)
  have p4 := BxS.set ⟨p3c, p3f⟩ (.slice (some ⟨w2.heap.size, 0, none⟩) 1 1)
  have b4 : Below w.heap.size w _ := b3.setCell (p := ⟨w.heap.size, 0, none⟩) (Nat.le_refl _) (.slice (some ⟨w2.heap.size, 0, none⟩) 1 1)
  clear o3 p3c p3f b3 s3
  generalize ((w2.alloc (.cells #[.slice (some ⟨w.heap.size + 1, 0, none⟩) n n] 35)).setCell ⟨w.heap.size, 0, none⟩ (.slice (some ⟨w2.heap.size, 0, none⟩) 1 1)) = w4 at *
  go_loopw [7, 14] (fun _ i wr => ∃ (k : Nat) (A2 : Option Addr) (c2 : Nat) (rs : List Value) (Ls : List (List Int)), k ≤ l.length ∧ i = .int .i64 k ∧ ncTo l k = true ∧ cuts n (l.take k) = some Ls ∧ BxS wr w.heap.size (.slice A2 Ls.length c2) ∧ OwnPS wr (w.heap.size + 1) A2 c2 rs Ls ∧ Below w.heap.size w wr) (fun _ i _ => l.length - (intOf i).toNat)
  case atStart => exact ⟨0, _, _, _, _, Nat.zero_le _, rfl, rfl, rfl, p4, o4, b4⟩
  case round =>
    clear o4 p4 b4 hs2
    obtain ⟨k, A2, c2, rs, Ls, hk, rfl, hnc, hcu, hp, ho, hb⟩ := hrel
    obtain ⟨hLl, hLp, hLr⟩ := cuts_rows n3 Ho.out hk hnc hcu
    have hk3 := cut_sumK n3 Ho.out hk hnc
    have hszp : w.heap.size + 1 ≤ wr.heap.size := World.block_lt_of_cell? wr _ hp.1
    by_cases hlt : k < l.length
    · obtain ⟨b', off, rfl, hbB, hc⟩ := H.out.below (hb.mono hB) (by omega)
      obtain ⟨g0, g1⟩ := hc k hlt
      have i0 : (0 : Int) ≤ (k : Int) := by omega
      have i1 : (k : Int) < (l.length : Int) := by omega
      have hdg := (ord_at Ho.out hlt).1
      rw [dgB_iff] at hdg
      have e1 : l.getD k (0, 0) = l[k] := by simp [hlt]
      have hnx := cuts_next hlt hcu
      have hfl := fun hh => cuts_fail hlt hcu hh
      have hcr := cuts_cross n3 Ho.out hlt hnc
      have hn1 := ncTo_succ l k
      rw [hnc, e1, Bool.true_and] at hn1
      rw [e1] at g0 g1
      have hcp := impl_cutPiece (w.heap.size + 1) c2 A2 rs Ls l[k].1 l[k].2 ((wr.alloc (.cells #[.int .i64 l[k].1, .int .i64 l[k].2] 49))) (ho.alloc _) (by simp; omega) (by omega) (fun j hj => by
        have := hLr (rowOf Ls j) (by simp [rowOf, hj])
        exact ⟨this.1, by omega⟩) (by omega)
      rw [show ((l[k].1, l[k].2) : Int × Int) = l[k] from rfl] at hcp
      have hpc := hp.kept ((Below.refl _ _).alloc hszp (.cells #[.int .i64 l[k].1, .int .i64 l[k].2] 49))
      rw [hLl] at hcp hpc
      have Hcp := Lib.hid hcp
      have Hnx := Lib.hid hnx
      have Hfl := Lib.hid hfl
      have Hn1 := Lib.hid hn1
      have Hb := Lib.hid (hb.alloc hb.size (.cells #[.int .i64 l[k].1, .int .i64 l[k].2] 49))
      have Hp := Lib.hid hpc
      have hbx : anyCross l[k] (l.take k) = true → cutS Ls l[k] = none := fun hh => hcr hh hcu
      have hby : anyCross l[k] (l.take k) = false → (cutS Ls l[k]).isSome = true := fun hh => by
        obtain ⟨Ls', h1, _⟩ := cuts_some n3 Ho.out (k + 1) hlt (by rw [Hn1.out, hh]; rfl)
        rw [← Hnx.out, h1]; rfl
      have Hbx := Lib.hid hbx
      have Hby := Lib.hid hby
      obtain ⟨hpc1, hpc2⟩ := hpc
      clear hc hcp hnx hfl hn1 hcr hcu hLp hLr ho hp hb hnc e1 hbx hby hdg hLl
      generalize l[k].1 = x at *
      generalize l[k].2 = y at *
      cases hx : anyCross l[k] (l.take k)
      · obtain ⟨Ls', hL'⟩ := Option.isSome_iff_exists.1 (Hby.out hx)
        have HL' := Lib.hid hL'
        clear hL'
        go_wp2_with fail
        refine Hcp.out.mono ?_
        rintro e w6 ⟨hb6, he⟩
        rw [HL'.out] at he
        obtain ⟨A6, c6, rs6, rfl, o6⟩ := he
        obtain ⟨p6c, p6f⟩ := Hp.out.kept hb6
        have b6 := Hb.out.trans (hb6.mono (Nat.le_succ _))
        have HF : Hid (BxS (w6.setCell ⟨w.heap.size, 0, none⟩ (.slice A6 Ls'.length c6)) w.heap.size (.slice A6 Ls'.length c6) ∧ OwnPS (w6.setCell ⟨w.heap.size, 0, none⟩ (.slice A6 Ls'.length c6)) (w.heap.size + 1) A6 c6 rs6 Ls' ∧ Below w.heap.size w (w6.setCell ⟨w.heap.size, 0, none⟩ (.slice A6 Ls'.length c6))) :=
          Lib.hid ⟨BxS.set ⟨p6c, p6f⟩ _, o6.setBox _, b6.setCell (p := ⟨w.heap.size, 0, none⟩) (Nat.le_refl _) _⟩
        clear o6 b6 hb6
        go_wp2
        go_roundw
        case rel => exact ⟨k + 1, A6, c6, rs6, Ls', by omega, by go_num, by rw [Hn1.out, hx]; rfl, by rw [Hnx.out, HL'.out], HF.out.1, HF.out.2.1, HF.out.2.2⟩
        case measure => simp [intOf]; omega
      · have hno := Hfl.out (Hbx.out hx)
        have hL' := Hbx.out hx
        have Hno := Lib.hid hno
        have HL' := Lib.hid hL'
        clear hno hL'
        go_wp2_with fail
        refine Hcp.out.mono ?_
        rintro e w6 ⟨hb6, he⟩
        rw [HL'.out] at he
        subst he
        obtain ⟨p6c, p6f⟩ := Hp.out.kept hb6
        have b6 := Hb.out.trans (hb6.mono (Nat.le_succ _))
        go_wp2
        refine leaves_cons (f := 93) (args := #[.pointer (some ⟨w.heap.size, 0, none⟩)]) (by simp) (by simp [go_sem]) ?_
        refine (catch_crossed ⟨w.heap.size, 0, none⟩ x y (.slice A2 (k + 1) c2) [] _ p6c p6f).mono ?_
        rintro e u' w'' ⟨rfl, rfl, rfl⟩
        have HF : Hid (CaE w (cuts n l) (.returned (.tuple #[.slice none 0 0, .bool false])) ((w6.alloc (.cells #[.int .i64 x, .int .i64 y] 49)).setCell ⟨w.heap.size, 0, none⟩ (.slice none 0 0))) := Lib.hid (by
          rw [Hno.out]
          refine ⟨none, 0, [], rfl, OwnPS.nil_, ?_, fun _ => ⟨rfl, rfl⟩⟩
          exact (b6.alloc b6.size _).setCell (p := ⟨w.heap.size, 0, none⟩) (Nat.le_refl _) _)
        have hcc : ((w6.alloc (.cells #[.int .i64 x, .int .i64 y] 49)).setCell ⟨w.heap.size, 0, none⟩ (.slice none 0 0)).cell? ⟨w.heap.size, 0, none⟩ = some (.slice none 0 0) :=
          World.cell?_setCell_same _ _ _ (cell_kept ((Below.refl _ _).alloc (Nat.le_refl _) _) p6c)
        simp [Leaves, settle, results, Try.results56, go_sem, hcc]
        exact HF.out
    · obtain rfl : k = l.length := by omega
      rw [List.take_length] at hcu
      have hcs : (cuts n l).getD [] = Ls ∧ (cuts n l).isSome = true := by rw [hcu]; exact ⟨rfl, rfl⟩
      have Hcs := Lib.hid hcs
      have HL := Lib.hid hLl
      rw [hLl] at hp
      obtain ⟨pc, pf⟩ := hp
      clear hcs hcu hLp hLr hLl
      go_wp2
      refine leaves_cons (f := 93) (args := #[.pointer (some ⟨w.heap.size, 0, none⟩)]) (by simp) (by simp [go_sem]) ?_
      refine (catch_idle ⟨w.heap.size, 0, none⟩ _).mono ?_
      rintro e u' w'' ⟨rfl, rfl, rfl⟩
      have hcc : ((wr.setCell ⟨w.heap.size, 0, none⟩ (.slice A2 (l.length + 1) c2)).alloc (.cells #[.int .i64 0, .int .i64 0] 49)).cell? ⟨w.heap.size, 0, none⟩ = some (.slice A2 (l.length + 1) c2) :=
        cell_kept ((Below.refl _ _).alloc (Nat.le_refl _) _) (World.cell?_setCell_same _ _ _ pc)
      have HF : Hid (CaE w (cuts n l) (.returned (.tuple #[.slice A2 (l.length + 1) c2, .bool true])) ((wr.setCell ⟨w.heap.size, 0, none⟩ (.slice A2 (l.length + 1) c2)).alloc (.cells #[.int .i64 0, .int .i64 0] 49))) := Lib.hid (by
        unfold CaE
        rw [Hcs.out.1, Hcs.out.2]
        refine ⟨A2, c2, rs, by rw [HL.out], ((ho.setBox _).alloc _).mono (Nat.le_succ _), ?_, fun h => by cases h⟩
        have hb2 := hb.setCell (p := ⟨w.heap.size, 0, none⟩) (Nat.le_refl _) (.slice A2 (l.length + 1) c2)
        exact hb2.alloc hb2.size _)
      simp [Leaves, settle, results, Try.results56, go_sem, hcc]
      exact HF.out
end Go.Proofs.Ytlnnnjnboknoeaa
