/- Laws with a slice of slices of numbers among their arguments: it is opened, measured, copied; and marks turn its own blocks alone. -/
import Derived.Test.YtbebalgleiafdabDoorSSA
import Derived.Test.YtbebalgleiafdabDoorOpen
import Derived.Deep.Matrix
namespace Go.Proofs.YtbebalgleiafdabDoor
set_option linter.unusedVariables false
open Go.RowKit

theorem SlI.mk_ {w : World} {B b off : Nat} {l : List Int} (hb : b < B) (h : ∀ j, j < l.length → w.cell? ⟨b, off + j, none⟩ = some (.int .i64 (l.getD j 0))) : SlI w B (some ⟨b, off, none⟩) l := fun _ => ⟨b, off, rfl, hb, h⟩

open Go.ChangeShapes Go.WideShapes Go.ChangeAt Go.Joins Go.Deep in
theorem Opens.intss_ {H : Type} {enc : TypeId × Value → H} {P : Program} {w : World} {base : Nat} {held : Bool} {r : Reach} {b0 : Nat} {t e q : TypeId} {v : Value} {d : DataW H} {p : List MemPlace} (hs : P.underlying t = some (.slice e)) (he : P.underlying e = some (.slice q)) (hq : P.underlying q = some (.int .i64)) (ce : P.cellsOf e = 1) (cq : P.cellsOf q = 1)
    (hv : Value.okWide P w r b0 t v) (h : DataW.Trod enc P w base (fun _ => true) held t v d p) :
    ∃ (A : Option Addr) (c : Nat) (Ls : List (List Int)), v = .slice A Ls.length c ∧ SlSS w w.heap.size A Ls ∧ Ls.length ≤ c ∧ c ≤ maxLen ∧ (∀ j, j < Ls.length → (rowOf Ls j).length ≤ maxLen) := by
  obtain ⟨A, n, c, rfl⟩ := okWide_slice hs hv
  obtain ⟨fuel, hf⟩ := h
  rcases open_int_rows hs he hq ce cq hf with ⟨hcs, _⟩ | ⟨a, len, cap, RA, L, C, Z, hcs, _, hl, hm, _, hr⟩
  · simp [Value.cells] at hcs
    obtain ⟨rfl, rfl, rfl⟩ := hcs
    exact ⟨none, 0, [], rfl, fun h => by simp at h, Nat.le_refl _, by simp [maxLen], fun j hj => by simp at hj⟩
  · simp [Value.cells] at hcs
    obtain ⟨rfl, rfl, rfl⟩ := hcs
    have hrow : ∀ j, j < n → rowOf ((List.range n).map fun r => (Z r).take (L r)) j = (Z j).take (L j) := fun j hj => by
      unfold rowOf
      simp [hj]
    have hlen : ((List.range n).map fun r => (Z r).take (L r)).length = n := by simp
    have hrl : ∀ j, j < n → ((Z j).take (L j)).length = L j := fun j hj => by
      obtain ⟨_, h1, _, h3, _⟩ := hr j (by omega)
      simp
      omega
    refine ⟨some a, c, (List.range n).map fun r => (Z r).take (L r), by rw [hlen], fun h0 => ?_, by omega, hm, fun j hj => ?_⟩
    · rw [hlen] at h0
      have hc0 := (hr 0 (by omega)).1
      obtain ⟨b, off, spot⟩ := a
      have hsp : spot = none := by simpa [Addr.add] using World.cell?_spot hc0
      subst hsp
      have hblk : b < w.heap.size := by
        have := World.block_lt_of_cell? w _ hc0
        simpa [Addr.add] using this
      refine ⟨b, off, rfl, hblk, fun j hj => ?_⟩
      rw [hlen] at hj
      obtain ⟨h1, h2, h3, h4, h5, h6, h7⟩ := hr j (by omega)
      rw [Addr.add_lit] at h1
      rw [hrow j hj, hrl j hj]
      refine ⟨RA j, C j, h1, fun h0' => ?_⟩
      rw [hrl j hj] at h0'
      cases hRA : RA j with
      | none => have := h6 hRA; omega
      | some a' =>
        obtain ⟨_, hcell⟩ := h7 a' hRA
        have hc0' := hcell 0 (by omega)
        obtain ⟨b', off', spot'⟩ := a'
        have hsp' : spot' = none := by simpa [Addr.add] using World.cell?_spot hc0'
        subst hsp'
        have hblk' : b' < w.heap.size := by
          have := World.block_lt_of_cell? w _ hc0'
          simpa [Addr.add] using this
        refine ⟨b', off', rfl, hblk', fun i hi => ?_⟩
        rw [hrl j hj] at hi
        have := hcell i (by omega)
        rw [Addr.add_lit] at this
        rw [this]
        simp [hi]
    · rw [hlen] at hj
      obtain ⟨_, h1, h2, _⟩ := hr j (by omega)
      rw [hrow j hj, hrl j hj]
      omega

/-- the world has turned in some blocks alone -/
structure Only (w w' : World) (S : Nat → Prop) : Prop where
  os : w'.os = w.os
  tape : w'.tape = w.tape
  output : w'.output = w.output
  size : w.heap.size ≤ w'.heap.size
  block : ∀ k, k < w.heap.size → ¬S k → w'.heap[k]? = w.heap[k]?
theorem Only.refl (w : World) (S : Nat → Prop) : Only w w S := ⟨rfl, rfl, rfl, Nat.le_refl _, fun _ _ _ => rfl⟩
theorem Only.grown {w w1 w2 : World} {S : Nat → Prop} {row : Option Nat} (h : Only w w1 S) (hg : w1.grownBy w2 row) (hs : ∀ k, row = some k → S k) : Only w w2 S :=
  ⟨hg.os.trans h.os, hg.tape.trans h.tape, hg.output.trans h.output, Nat.le_trans h.size hg.size, fun k hk hn => (hg.block k (Nat.lt_of_lt_of_le hk h.size) (fun e => hn (hs k e.symm))).trans (h.block k hk hn)⟩
theorem own_only {w w' : World} {S : Nat → Prop} {base e size n : Nat} {v : Value} {xs : List Value} (h : w.ownsRow base e size v n xs) (ho : Only w w' S) (hn : ∀ k, v.ownBlock = some k → ¬S k) : w'.ownsRow base e size v n xs := by
  refine ⟨h.1, ?_⟩
  rcases h.2 with h2 | ⟨g, cap, cur, rfl, hb, hgg, rest⟩
  · exact .inl h2
  · refine .inr ⟨g, cap, cur, rfl, hb, ?_, rest⟩
    have hlt : g < w.heap.size := (Array.getElem?_eq_some_iff.1 hgg).1
    rw [ho.block g hlt (hn g rfl)]
    exact hgg
theorem OwnSS.only {w w' : World} {S : Nat → Prop} {base : Nat} {A : Option Addr} {c : Nat} {rs : List Value} {Ls : List (List Int)} (h : OwnSS w base A c rs Ls) (ho : Only w w' S) (hn : ∀ k, base ≤ k → ¬S k) : OwnSS w' base A c rs Ls :=
  ⟨h.1, own_only h.2.1 ho (fun k hk => hn k (h.2.1.lt k hk).1), fun j hj => own_only (h.2.2.1 j hj) ho (fun k hk => hn k ((h.2.2.1 j hj).lt k hk).1), h.2.2.2⟩
theorem below_only {B : Nat} {w0 w w' : World} {S : Nat → Prop} (h : Below B w0 w) (ho : Only w w' S) (hs : ∀ k, S k → B ≤ k) (hB : B ≤ w0.heap.size := by omega) : Below B w0 w' :=
  ⟨ho.os.trans h.os, ho.tape.trans h.tape, ho.output.trans h.output, Nat.le_trans h.size ho.size, fun k hk => (ho.block k (Nat.lt_of_lt_of_le hk (Nat.le_trans hB h.size)) (fun hsk => by have := hs k hsk; omega)).trans (h.block k hk)⟩
/-- the blocks of a list's rows -/
def RowBlk (rs : List Value) (n : Nat) (k : Nat) : Prop := ∃ j, j < n ∧ (rvOf rs j).ownBlock = some k


theorem laws_szI_fit (A : Option Addr) (n c : Nat) (m : Int) (w : World) (h : (n : Int) ≤ m) (hm : m ≤ 1048576) :
    Calls Tryd.prog 28 #[.slice A n c, .int .i64 m] w fun e w' => e = .returned (.int .i64 (m - (n : Int))) ∧ w = w' := by
  have h1 : ¬ m - (n : Int) < 0 := by omega
  go_enter Tryd.func28, Tryd.ntmps28
  go_wp2
  go_ret
  exact ⟨rfl, rfl⟩
theorem laws_szI_over (A : Option Addr) (n c : Nat) (m : Int) (w : World) (hn : n ≤ maxLen) (h : ¬(n : Int) ≤ m) (hm : 0 ≤ m) (hm2 : m ≤ 1048576) :
    Calls Tryd.prog 28 #[.slice A n c, .int .i64 m] w fun e w' => e = .returned (.int .i64 (-1)) ∧ w = w' := by
  unfold maxLen at hn
  have h1 : m - (n : Int) < 0 := by omega
  go_enter Tryd.func28, Tryd.ntmps28
  go_wp2
  go_ret
  exact ⟨rfl, rfl⟩
def SzEnd (Ls : List (List Int)) (w : World) (e : Ending) (w' : World) : Prop := ∃ r : Int, e = .returned (.int .i64 r) ∧ w = w' ∧ (r < 0 ∨ (0 ≤ r ∧ Ls.length ≤ 1048576 ∧ pre Ls Ls.length ≤ 1048576))
set_option maxHeartbeats 800000 in
theorem laws_szIntSS (A : Option Addr) (c B n : Nat) (Ls : List (List Int)) (w : World) (hn : Ls.length = n) (h : SlSS w B A Ls) (hm : n ≤ maxLen) (hr : ∀ j, j < Ls.length → (rowOf Ls j).length ≤ maxLen) :
    Calls Tryd.prog 10 #[.slice A n c, .int .i64 1048576] w (SzEnd Ls w) := by
  unfold maxLen at hm
  have Hn := Lib.hid hn
  have H := Lib.hid h
  have Hr := Lib.hid hr
  clear hn h hr
  by_cases hfit : n ≤ 1048576
  · have h1 : ¬ (1048576 : Int) - (n : Int) < 0 := by omega
    go_enter Tryd.func10, Tryd.ntmps10
    go_wp2
    go_loop [1, 5] (fun q i => ∃ k : Nat, k ≤ n ∧ i = .int .i64 k ∧ q = .int .i64 (1048576 - (n : Int) - (pre Ls k : Int)) ∧ (n : Int) + (pre Ls k : Int) ≤ 1048576) (fun _ i => n - (intOf i).toNat)
    case atStart => exact ⟨0, Nat.zero_le _, rfl, by simp [pre_zero], by rw [pre_zero]; omega⟩
    case round =>
      obtain ⟨k, hk, rfl, rfl, hp⟩ := hrel
      by_cases hlt : k < n
      · obtain ⟨b, off, rfl, hbB, hc⟩ := H.out (by rw [Hn.out]; omega)
        obtain ⟨Aj, cj, g, hs⟩ := hc k (by rw [Hn.out]; exact hlt)
        have i0 : (0 : Int) ≤ (k : Int) := by omega
        have i1 : (k : Int) < (n : Int) := by omega
        have hps := pre_succ Ls k (by rw [Hn.out]; exact hlt)
        have hrk := Hr.out k (by rw [Hn.out]; exact hlt)
        have Hps := Lib.hid hps
        clear hc hs hps
        generalize (rowOf Ls k).length = m at *
        generalize pre Ls k = p at *
        by_cases hfk : (m : Int) ≤ 1048576 - (n : Int) - (p : Int)
        · have Hcall := Lib.hid (laws_szI_fit Aj m cj (1048576 - (n : Int) - (p : Int)) w hfk (by omega))
          have hn0 : ¬(1048576 - (n : Int) - (p : Int) - (m : Int) < 0) := by omega
          have he : 1048576 - (n : Int) - (pre Ls (k + 1) : Int) = 1048576 - (n : Int) - (p : Int) - (m : Int) := by rw [Hps.out]; omega
          have hle : (n : Int) + (pre Ls (k + 1) : Int) ≤ 1048576 := by rw [Hps.out]; omega
          have He := Lib.hid he
          have Hle := Lib.hid hle
          clear he hle
          go_wp2_with fail
          refine Hcall.out.mono ?_
          rintro e w1 ⟨rfl, rfl⟩
          go_wp2
          go_round
          case rel => exact ⟨k + 1, by omega, by go_num, by rw [He.out], Hle.out⟩
          case measure => simp [intOf]; omega
        · have Hcall := Lib.hid (laws_szI_over Aj m cj (1048576 - (n : Int) - (p : Int)) w hrk hfk (by omega) (by omega))
          go_wp2_with fail
          refine Hcall.out.mono ?_
          rintro e w1 ⟨rfl, rfl⟩
          go_wp2
          go_ret
          exact ⟨-1, rfl, rfl, Or.inl (by omega)⟩
      · obtain rfl : k = n := by omega
        have hE : SzEnd Ls w (.returned (.int .i64 (1048576 - (k : Int) - (pre Ls k : Int)))) w := ⟨_, rfl, rfl, Or.inr ⟨by omega, by rw [Hn.out]; omega, by rw [Hn.out]; omega⟩⟩
        have HE := Lib.hid hE
        clear hE
        go_wp2
        go_ret
        exact HE.out
  · have h1 : (1048576 : Int) - (n : Int) < 0 := by omega
    go_enter Tryd.func10, Tryd.ntmps10
    go_wp2
    go_ret
    exact ⟨-1, rfl, rfl, Or.inl (by omega)⟩

def halfSS (Ls : List (List Int)) (k : Nat) : List (List Int) := Ls.take k ++ List.replicate (Ls.length - k) []
theorem halfSS_length (Ls : List (List Int)) (k : Nat) (h : k ≤ Ls.length) : (halfSS Ls k).length = Ls.length := by simp [halfSS]; omega
theorem halfSS_zero (Ls : List (List Int)) : halfSS Ls 0 = List.replicate Ls.length [] := by simp [halfSS]
theorem halfSS_all (Ls : List (List Int)) : halfSS Ls Ls.length = Ls := by simp [halfSS]
theorem halfSS_set (Ls : List (List Int)) (k : Nat) (h : k < Ls.length) : (halfSS Ls k).set k (rowOf Ls k) = halfSS Ls (k + 1) := by
  unfold halfSS rowOf
  rw [List.set_append_right _ _ (by simp; omega)]
  have : k - (Ls.take k).length = 0 := by simp; omega
  rw [this, show Ls.length - k = (Ls.length - (k + 1)) + 1 by omega, List.replicate_succ, List.set_cons_zero, List.take_succ_eq_append_getElem h, List.append_assoc]
  simp [h]

def ToEnd (Ls : List (List Int)) (n : Nat) (w : World) (e : Ending) (w' : World) : Prop := ∃ rs, e = .returned (.slice (some ⟨w.heap.size, 0, none⟩) n n) ∧ OwnSS w' w.heap.size (some ⟨w.heap.size, 0, none⟩) n rs Ls ∧ Below w.heap.size w w'
set_option maxRecDepth 100000 in
set_option maxHeartbeats 1600000 in
theorem laws_toIntSS (A : Option Addr) (c B n : Nat) (Ls : List (List Int)) (w : World) (hn : Ls.length = n) (h : SlSS w B A Ls) (hB : B ≤ w.heap.size) (hl : n ≤ 1048576) (hr : ∀ j, j < Ls.length → (rowOf Ls j).length ≤ 1048576) :
    Calls Tryd.prog 12 #[.slice A n c] w (ToEnd Ls n w) := by
  have Hn := Lib.hid hn
  have H := Lib.hid h
  have Hr := Lib.hid hr
  clear hn h hr
  obtain ⟨i0', hii, hz0, hz1, hz3⟩ := info_parts infoSl
  have hbytes : i0'.bytes * n ≤ 281474976710656 := by rw [hz3]; omega
  have hmax : n ≤ maxLen := by unfold maxLen; omega
  go_enter Tryd.func12, Tryd.ntmps12
  go_wp2_with (at_make; refine wpList_make_full _ rfl _ _ _ rfl w.heap.size 49 i0' (.slice none 0 0) 1 Tryd.underlying29 hii hz0 hz1 _ _ _ _ n rfl rfl rfl rfl hbytes hmax (Nat.le_refl _) ?_; intro w3 hown3 hgrow3)
  have hb3 : Below w.heap.size w w3 := (Below.refl _ _).grown hgrow3 (Nat.le_refl _) (fun _ e => by cases e)
  rw [zerosSS] at hown3
  have hO3 := OwnSS.zeros hown3
  rw [← Hn.out, ← halfSS_zero, Hn.out] at hO3
  have HO3 := Lib.hid hO3
  have Hb3 := Lib.hid hb3
  clear hown3 hgrow3 hb3 hO3 hii hz0 hz1 hz3 hbytes hmax
  go_wp2
  go_loopw [4] (fun i wr => ∃ (k : Nat) (rs : List Value), k ≤ n ∧ i = .int .i64 k ∧ OwnSS wr w.heap.size (some ⟨w.heap.size, 0, none⟩) n rs (halfSS Ls k) ∧ Below w.heap.size w wr) (fun i _ => n - (intOf i).toNat)
  case atStart => exact ⟨0, _, Nat.zero_le _, rfl, HO3.out, Hb3.out⟩
  case round =>
    clear HO3 Hb3
    obtain ⟨k, rs, hk, rfl, ho, hb⟩ := hrel
    by_cases hlt : k < n
    · obtain ⟨b, off, rfl, hbB, hc⟩ := H.out.below (hb.mono hB) (by rw [Hn.out]; omega)
      obtain ⟨Aj, cj, g, hs⟩ := hc k (by rw [Hn.out]; exact hlt)
      have i0 : (0 : Int) ≤ (k : Int) := by omega
      have i1 : (k : Int) < (n : Int) := by omega
      have hrk := Hr.out k (by rw [Hn.out]; exact hlt)
      have Hset := Lib.hid (halfSS_set Ls k (by rw [Hn.out]; exact hlt))
      have Hfl : Hid ((halfSS Ls k).length = n) := Lib.hid (by rw [halfSS_length Ls k (by rw [Hn.out]; exact hk), Hn.out])
      have Ho := Lib.hid ho
      have Hb := Lib.hid hb
      have Hcall := Lib.hid (laws_toIntS Aj cj B (rowOf Ls k) wr hs (Nat.le_trans hB hb.size) hrk)
      clear ho hb hc hs
      go_wp2_with fail
      refine Hcall.out.mono ?_
      rintro e w2 ⟨rfl, o7, b7⟩
      have hO7 := Ho.out.kept b7
      have hbk5 := Ho.out.blk
      have hb7 := below_kept Hb.out (Nat.le_refl _) b7
      have hnb := o7.lt
      have o7' := o7.mono Hb.out.size
      obtain ⟨hO8, hg8⟩ := OwnSS.store hO7 (t := k) (by rw [Hfl.out]; exact hlt) o7' (fun j hj hjt k hk e => by
        have h1 := (hnb k hk).1
        have h2 := hbk5 j hj k e.symm
        omega)
      rw [Hset.out] at hO8
      have hc := (hO7.outer (by rw [Hfl.out]; omega))
      obtain ⟨g', hge, _, _, hcell⟩ := hc
      have hgg : g' = w.heap.size := by injection hge with e; injection e with e1; exact e1.symm
      subst hgg
      have r0 := hcell k (by rw [Hfl.out]; exact hlt)
      have hfro := hO7.2.1.frozenAt k
      have hb8 := below_grown hb7 hg8 (Nat.le_refl _) (fun k hk => by injection hk with hk; omega)
      have HO8 := Lib.hid hO8
      have Hb8 := Lib.hid hb8
      generalize rvOf rs k = rv at *
      generalize (rowOf Ls k).length = rl at *
      clear hO7 hbk5 hb7 hnb o7 o7' hO8 hg8 hge hcell hb8 b7 g
      go_wp2
      go_roundw
      case rel => exact ⟨k + 1, _, by omega, by go_num, HO8.out, Hb8.out⟩
      case measure => simp [intOf]; omega
    · obtain rfl : k = n := by omega
      have hall : halfSS Ls k = Ls := by rw [← Hn.out]; exact halfSS_all Ls
      rw [hall] at ho
      have HE : Hid (ToEnd Ls k w (.returned (.slice (some ⟨w.heap.size, 0, none⟩) k k)) wr) := Lib.hid ⟨rs, rfl, ho, hb⟩
      clear ho hb hall
      go_wp2
      go_ret
      exact HE.out
set_option maxHeartbeats 800000 in
theorem laws_eqIntSS_w (A A' : Option Addr) (c c' B B' : Nat) (Ls : List (List Int)) (w : World) (h : SlSS w B A Ls) (h' : SlSS w B' A' Ls) (hl : Ls.length ≤ 1048576) (hr : ∀ j, j < Ls.length → (rowOf Ls j).length ≤ 1048576) :
    Calls Tryd.prog 14 #[.slice A Ls.length c, .slice A' Ls.length c'] w fun e w' => e = .returned (.bool true) ∧ Below w.heap.size w w' := by
  obtain ⟨n, hn⟩ : ∃ n, Ls.length = n := ⟨_, rfl⟩
  have Hn := Lib.hid hn
  have H := Lib.hid h
  have H' := Lib.hid h'
  have Hr := Lib.hid hr
  rw [hn] at hl ⊢
  clear hn h h' hr
  go_enter Tryd.func14, Tryd.ntmps14
  go_wp2
  go_loopw [5] (fun i wr => ∃ k : Nat, k ≤ n ∧ i = .int .i64 k ∧ SlSS wr B A Ls ∧ SlSS wr B' A' Ls ∧ Below w.heap.size w wr) (fun i _ => n - (intOf i).toNat)
  case atStart => exact ⟨0, Nat.zero_le _, rfl, H.out, H'.out, Below.refl _ _⟩
  case round =>
    obtain ⟨k, hk, rfl, hA, hA', hb⟩ := hrel
    by_cases hlt : k < n
    · obtain ⟨b, off, rfl, hbB, hc⟩   := hA (by rw [Hn.out]; omega)
      obtain ⟨b', off', rfl, hbB', hc'⟩ := hA' (by rw [Hn.out]; omega)
      obtain ⟨Aj, cj, g, hs⟩ := hc k (by rw [Hn.out]; exact hlt)
      obtain ⟨Aj', cj', g', hs'⟩ := hc' k (by rw [Hn.out]; exact hlt)
      have i0 : (0 : Int) ≤ (k : Int) := by omega
      have i1 : (k : Int) < (n : Int) := by omega
      have hrk := Hr.out k (by rw [Hn.out]; exact hlt)
      have Heq := Lib.hid fun m => laws_eqIntS_q Aj Aj' cj cj' B B' (rowOf Ls k) (wr.drewN m) (hs.drewN m) (hs'.drewN m) (by omega)
      have HA := Lib.hid hA
      have HA' := Lib.hid hA'
      clear hc hc' hs hs' hA hA'
      generalize (rowOf Ls k).length = m at *
      go_wp2
      go_quiet ((go_at_call 35; with_reducible exact Calls.quiet_of (Heq.out _)))
      go_wp2
      go_roundw
      case rel => exact ⟨k + 1, by omega, by go_num, HA.out.drewN _, HA'.out.drewN _, below_drewN hb _⟩
      case measure => simp [intOf]; omega
    · go_wp2
      go_ret
      exact ⟨rfl, hb⟩

theorem laws_eqIntSS_n (A A' : Option Addr) (c c' B B' n : Nat) (Ls : List (List Int)) (w : World) (hn : Ls.length = n) (h : SlSS w B A Ls) (h' : SlSS w B' A' Ls) (hl : n ≤ 1048576) (hr : ∀ j, j < Ls.length → (rowOf Ls j).length ≤ 1048576) :
    Calls Tryd.prog 14 #[.slice A n c, .slice A' n c'] w fun e w' => e = .returned (.bool true) ∧ Below w.heap.size w w' := by
  subst hn
  exact laws_eqIntSS_w A A' c c' B B' Ls w h h' hl hr
end Go.Proofs.YtbebalgleiafdabDoor
