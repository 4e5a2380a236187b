/- Lists of numbers put in order by the library: slices.Compare, slices.SortFunc over rows that lie anywhere in blocks of their own. -/
import Derived.Deep.QuietTactic
import Derived.BigQuiet
import Derived.Shelf.SlSortCmp.Kit1
import Derived.Shelf.SlLaysF
import Derived.Shelf.SlSortCmp.Whole1
import Derived.Test.YtlnnnjnboknoeaaLawPS
import Derived.Test.YtlnnnjnboknoeaaPcN
import Derived.Test.YtlnnnjnboknoeaaTriI
namespace Go.Proofs.Ytlnnnjnboknoeaa
set_option linter.unusedVariables false
open Go.RowKit

/-- what slices.Compare tells -/
def cmpP : List Int → List Int → Int
  | [], [] => 0
  | [], _ :: _ => -1
  | _ :: _, [] => 1
  | a :: r, b :: s => if a = b then cmpP r s else sgnI a b
theorem cmpP_lt : ∀ a b : List Int, decide (cmpP a b < 0) = ltP a b
  | [], [] => rfl
  | [], _ :: _ => rfl
  | _ :: _, [] => rfl
  | a :: r, b :: s => by
    unfold cmpP ltP
    by_cases e : a = b
    · rw [if_pos e, if_pos e]; exact cmpP_lt r s
    · rw [if_neg e, if_neg e]
      unfold sgnI
      by_cases h : a < b
      · simp [h]
      · simp [h]; split <;> simp
theorem cmpP_drop {a b : List Int} {k : Nat} (ha : k < a.length) (hb : k < b.length) : cmpP (a.drop k) (b.drop k) = if a.getD k 0 = b.getD k 0 then cmpP (a.drop (k + 1)) (b.drop (k + 1)) else sgnI (a.getD k 0) (b.getD k 0) := by
  rw [List.drop_eq_getElem_cons ha, List.drop_eq_getElem_cons hb]
  have e1 : a.getD k 0 = a[k] := by simp [ha]
  have e2 : b.getD k 0 = b[k] := by simp [hb]
  rw [e1, e2]
  rfl
theorem cmpP_long {a b : List Int} {k : Nat} (ha : k < a.length) (hb : b.length ≤ k) : cmpP (a.drop k) (b.drop k) = 1 := by
  rw [List.drop_eq_getElem_cons ha, List.drop_of_length_le hb]
  rfl
theorem cmpP_end {a b : List Int} {k : Nat} (ha : a.length ≤ k) : cmpP (a.drop k) (b.drop k) = if k < b.length then -1 else 0 := by
  rw [List.drop_of_length_le ha]
  by_cases h : k < b.length
  · rw [if_pos h, List.drop_eq_getElem_cons h]; rfl
  · rw [if_neg h, List.drop_of_length_le (by omega)]; rfl
set_option maxRecDepth 100000 in
set_option maxHeartbeats 1600000 in
theorem slices_CompareP (A A2 : Option Addr) (c c2 B B2 n n2 : Nat) (l r : List Int) (w : World) (hl : l.length = n) (hr : r.length = n2) (h : SlI w B A l) (h2 : SlI w B2 A2 r) (hn : n ≤ 1000) (hn2 : n2 ≤ 1000) :
    Calls Try.prog 58 #[.slice A n c, .slice A2 n2 c2] w fun e w' => e = .returned (.int .i64 (cmpP l r)) ∧ w = w' := by
  have Hl := Lib.hid hl
  have Hr := Lib.hid hr
  clear hl hr
  go_enter Try.func58, Try.ntmps58
  go_wp2
  go_loop [5, 6, 7, 8, 11] (fun _ _ _ _ i => ∃ k : Nat, k ≤ n ∧ k ≤ n2 ∧ i = .int .i64 k ∧ cmpP (l.drop k) (r.drop k) = cmpP l r) (fun _ _ _ _ i => n - (intOf i).toNat)
  case atStart => exact ⟨0, Nat.zero_le _, Nat.zero_le _, rfl, rfl⟩
  case round =>
    obtain ⟨k, hk, hk2, rfl, ht⟩ := hrel
    by_cases hlt : k < n
    · obtain ⟨b, off, rfl, hbB, hc⟩ := h (by have := Hl.out; omega)
      have g0 := hc k (by rw [Hl.out]; exact hlt)
      have i0 : (0 : Int) ≤ (k : Int) := by omega
      have i1 : (k : Int) < (n : Int) := by omega
      by_cases hlt2 : k < n2
      · obtain ⟨b2, off2, rfl, hbB2, hc2⟩ := h2 (by have := Hr.out; omega)
        have q0 := hc2 k (by rw [Hr.out]; exact hlt2)
        have i2 : (k : Int) < (n2 : Int) := by omega
        rw [cmpP_drop (by rw [Hl.out]; exact hlt) (by rw [Hr.out]; exact hlt2)] at ht
        generalize l.getD k 0 = x at *
        generalize r.getD k 0 = u at *
        have Ht := Lib.hid ht
        clear hc hc2 ht
        by_cases hx : x = u
        · subst hx
          rw [if_pos rfl] at Ht
          have e0 : sgnI x x = 0 := by simp [sgnI]
          go_wp2_with fail
          refine (cmp_Compare _ _ _).mono ?_
          rintro e w1 ⟨rfl, rfl⟩
          rw [e0]
          go_wp2
          go_round
          case rel => exact ⟨k + 1, by omega, by omega, by go_num, Ht.out⟩
          case measure => simp [intOf]; omega
        · rw [if_neg hx] at Ht
          have e0 : sgnI x u = -1 ∨ sgnI x u = 1 := by unfold sgnI; split; exact .inl rfl; rw [if_pos (by omega)]; exact .inr rfl
          go_wp2_with fail
          refine (cmp_Compare _ _ _).mono ?_
          rintro e w1 ⟨rfl, rfl⟩
          generalize sgnI x u = s at *
          have s0 : (s != 0) = true := by rcases e0 with rfl | rfl <;> rfl
          clear e0
          go_wp2
          go_ret
          exact ⟨by rw [← Ht.out]; rfl, rfl⟩
      · rw [cmpP_long (by rw [Hl.out]; exact hlt) (by rw [Hr.out]; omega)] at ht
        have Ht := Lib.hid ht
        clear hc ht
        go_wp2
        go_ret
        exact ⟨ret_int Ht.out, rfl⟩
    · obtain rfl : k = n := by omega
      rw [cmpP_end (by rw [Hl.out]; exact Nat.le_refl _)] at ht
      by_cases hlt2 : k < n2
      · rw [if_pos (by rw [Hr.out]; exact hlt2)] at ht
        have Ht := Lib.hid ht
        have i2 : (k : Int) < (n2 : Int) := by omega
        clear ht
        go_wp2
        go_ret
        exact ⟨ret_int Ht.out, rfl⟩
      · rw [if_neg (by rw [Hr.out]; exact hlt2)] at ht
        have Ht := Lib.hid ht
        have i2 : ¬ (k : Int) < (n2 : Int) := by omega
        clear ht
        go_wp2
        go_ret
        exact ⟨ret_int Ht.out, rfl⟩

/- SrtQW -/
section
variable {N : Nat}
/-- the value of a row, what is told of two rows -/
def encP (rs : List Value) (i : Fin (N + 1)) : Value := rvOf rs i.1
def cmpR (Ls : List (List Int)) (i j : Fin (N + 1)) : Int := cmpP (rowOf Ls i.1) (rowOf Ls j.1)
theorem ltR_iff (Ls : List (List Int)) (x y : Fin (N + 1)) : Go.Proofs.ltOf (cmpR Ls) x y = ltP (rowOf Ls x.1) (rowOf Ls y.1) := by
  rw [← cmpP_lt]
  rfl
theorem swoP (Ls : List (List Int)) : Go.Sort.SWO (Go.Proofs.ltOf (cmpR (N := N) Ls)) where
  irrefl x := by rw [ltR_iff]; exact ltP_irr _
  trans x y z h1 h2 := by
    rw [ltR_iff] at *
    exact ltP_trans _ _ _ h1 h2
  ntrans x y z h1 h2 := by
    rw [ltR_iff] at *
    exact leQ_trans h2 h1
theorem grown_sortP {α : Type} [Inhabited α] (enc : α → Value) (w : World) (g m : Nat) (d : Array α) (os : Array Obj) : w.grownBy (Go.Proofs.sortWorld enc w g 0 m d os) (some g) where
  os := rfl
  tape := rfl
  output := rfl
  size := by
    unfold Go.Proofs.sortWorld
    rw [Go.Sort.size_grow]
    simp [Go.Sort.putRow, Go.Sort.mapBlock, Go.Sort.ahead]
  block := fun k hk hne => by
    unfold Go.Proofs.sortWorld
    rw [Go.Sort.heap_grow_old _ _ (by simpa [Go.Sort.putRow, Go.Sort.mapBlock, Go.Sort.ahead] using hk)]
    show (w.heap.modify g _)[k]? = _
    rw [Array.getElem?_modify, if_neg (fun e => hne (by rw [e]))]
theorem own_sortP {α : Type} [Inhabited α] (enc : α → Value) {w : World} {B e g n c m : Nat} {os : Array Obj} {xs : List Value} (d : Array α) (hn : d.size = n) (h : w.ownsRow B e 1 (.slice (some ⟨g, 0, none⟩) n c) n xs) :
    (Go.Proofs.sortWorld enc w g 0 m d os).ownsRow B e 1 (.slice (some ⟨g, 0, none⟩) n c) n (d.toList.map enc) := by
  rcases h.2 with ⟨h', _⟩ | ⟨g', cap, cur, h', hb, hh, hc, hcm, hs, ht⟩
  · cases h'
  · cases h'
    refine ⟨by simp [hn], .inr ⟨g, c, Go.Sort.putCells enc 0 d cur, rfl, hb, ?_, hc, hcm, ?_, ?_⟩⟩
    · have hlt : g < w.heap.size := by
        have := Array.getElem?_eq_some_iff.1 hh
        exact this.1
      unfold Go.Proofs.sortWorld
      rw [Go.Sort.heap_grow_old _ _ (by simpa [Go.Sort.putRow, Go.Sort.mapBlock, Go.Sort.ahead] using hlt)]
      show (w.heap.modify g _)[g]? = _
      rw [Array.getElem?_modify, if_pos rfl, hh]
      rfl
    · simp [Go.Sort.putCells, hs]
    · refine List.ext_getElem? fun t => ?_
      by_cases hlt : t < n
      · rw [List.getElem?_take_of_lt (by omega), Array.getElem?_toList, List.getElem?_map, Array.getElem?_toList]
        have hcs : t < cur.size := by omega
        simp [Go.Sort.putCells, hcs, hn, hlt]
      · rw [List.getElem?_eq_none (by simp; omega), List.getElem?_eq_none (by simp; omega)]
theorem holdsP {w : World} {B e g n c : Nat} {rs : List Value} (hn : n = N + 1) (h : w.ownsRow B e 1 (.slice (some ⟨g, 0, none⟩) n c) n rs) : Go.Sort.Holds (encP (N := N) rs) w g 0 (List.finRange (N + 1)).toArray := by
  intro j hj
  have hj' : j < N + 1 := by simpa using hj
  rw [Nat.zero_add]
  refine ⟨?_, h.frozenAt j⟩
  have hl := h.1
  rw [h.cellAt j (by omega)]
  have e1 : ((List.finRange (N + 1)).toArray)[j]! = ⟨j, hj'⟩ := by
    rw [getElem!_pos _ j hj]
    simp
  rw [e1]
  unfold encP rvOf
  rw [List.getD_eq_getElem?_getD, List.getElem?_eq_getElem (show j < rs.length by omega), Option.getD_some]
end

/- SrtQL -/
section
open Go.Shelf
def srtPR : Go.Shelf.Ren := ⟨fun | 6 => 57 | 14 => 96 | 15 => 97 | 20 => 117 | 21 => 118 | 22 => 119 | 23 => 120 | 24 => 121 | 25 => 122 | 26 => 123 | 27 => 124 | 28 => 125 | 29 => 126 | 46 => 145 | 47 => 146 | 48 => 147 | 49 => 148 | 50 => 149 | 57 => 155 | n => n,
  fun | 0 => 0 | 3 => 3 | 4 => 4 | 5 => 5 | 9 => 9 | 22 => 29 | 24 => 35 | 25 => 60 | 39 => 94 | 45 => 109 | 46 => 110 | 50 => 40 | 53 => 116 | 55 => 118 | 66 => 127 | 70 => 131 | 76 => 137 | 77 => 138 | n => n, fun | n => n⟩
theorem srtPL : SlLaysF.n6 Try.prog srtPR := {
  mixed := by kernel_rfl
  f6 := ⟨Try.f57.name, by decide, Try.func57.trans (congrArg some (by kernel_rfl))⟩
  f14 := ⟨Try.f96.name, by decide, Try.func96.trans (congrArg some (by kernel_rfl))⟩
  f15 := Try.func97.trans (congrArg some (by kernel_rfl))
  f20 := ⟨Try.f117.name, by decide, Try.func117.trans (congrArg some (by kernel_rfl))⟩
  f21 := ⟨Try.f118.name, by decide, Try.func118.trans (congrArg some (by kernel_rfl))⟩
  f22 := ⟨Try.f119.name, by decide, Try.func119.trans (congrArg some (by kernel_rfl))⟩
  f23 := ⟨Try.f120.name, by decide, Try.func120.trans (congrArg some (by kernel_rfl))⟩
  f24 := ⟨Try.f121.name, by decide, Try.func121.trans (congrArg some (by kernel_rfl))⟩
  f25 := ⟨Try.f122.name, by decide, Try.func122.trans (congrArg some (by kernel_rfl))⟩
  f26 := ⟨Try.f123.name, by decide, Try.func123.trans (congrArg some (by kernel_rfl))⟩
  f27 := ⟨Try.f124.name, by decide, Try.func124.trans (congrArg some (by kernel_rfl))⟩
  f28 := Try.func125.trans (congrArg some (by kernel_rfl))
  f29 := Try.func126.trans (congrArg some (by kernel_rfl))
  f46 := ⟨Try.f145.name, by decide, Try.func145.trans (congrArg some (by kernel_rfl))⟩
  f47 := Try.func146.trans (congrArg some (by kernel_rfl))
  f48 := Try.func147.trans (congrArg some (by kernel_rfl))
  f49 := ⟨Try.f148.name, by decide, Try.func148.trans (congrArg some (by kernel_rfl))⟩
  f50 := ⟨Try.f149.name, by decide, Try.func149.trans (congrArg some (by kernel_rfl))⟩
  f57 := ⟨Try.f155.name, by decide, Try.func155.trans (congrArg some (by kernel_rfl))⟩
  t0 := Try.underlying0
  a0 := Try.isAgg0
  z0 := Try.sizeOf0
  v0 := Try.zeroValue0
  t3 := Try.underlying3
  a3 := Try.isAgg3
  z3 := Try.sizeOf3
  v3 := Try.zeroValue3
  t4 := Try.underlying4
  a4 := Try.isAgg4
  z4 := Try.sizeOf4
  v4 := Try.zeroValue4
  t5 := Try.underlying5
  a5 := Try.isAgg5
  z5 := Try.sizeOf5
  v5 := Try.zeroValue5
  t9 := Try.underlying9
  a9 := Try.isAgg9
  z9 := Try.sizeOf9
  v9 := Try.zeroValue9
  t22 := Try.underlying29
  a22 := Try.isAgg29
  z22 := Try.sizeOf29
  v22 := Try.zeroValue29
  t25 := Try.underlying60
  a25 := Try.isAgg60
  z25 := Try.sizeOf60
  v25 := Try.zeroValue60
  t39 := Try.underlying94
  a39 := Try.isAgg94
  z39 := Try.sizeOf94
  v39 := Try.zeroValue94
  t45 := Try.underlying109
  a45 := Try.isAgg109
  z45 := Try.sizeOf109
  v45 := Try.zeroValue109
  t46 := Try.underlying110
  a46 := Try.isAgg110
  z46 := Try.sizeOf110
  v46 := Try.zeroValue110
  t50 := Try.underlying40
  a50 := Try.isAgg40
  z50 := Try.sizeOf40
  v50 := Try.zeroValue40
  t53 := Try.underlying116
  a53 := Try.isAgg116
  z53 := Try.sizeOf116
  v53 := Try.zeroValue116
  t55 := Try.underlying118
  a55 := Try.isAgg118
  z55 := Try.sizeOf118
  v55 := Try.zeroValue118
  t66 := Try.underlying127
  a66 := Try.isAgg127
  z66 := Try.sizeOf127
  v66 := Try.zeroValue127
  t70 := Try.underlying131
  a70 := Try.isAgg131
  z70 := Try.sizeOf131
  v70 := Try.zeroValue131
  t76 := Try.underlying137
  a76 := Try.isAgg137
  z76 := Try.sizeOf137
  v76 := Try.zeroValue137
  t77 := Try.underlying138
  a77 := Try.isAgg138
  z77 := Try.sizeOf138
  v77 := Try.zeroValue138
  a24 := Try.isAgg35
  z24 := Try.sizeOf35
}
end

/- SrtQI -/
theorem extract_allP {α : Type} (d : Array α) (n : Nat) (h : d.size = n) : d.extract 0 n = d := by subst h; simp
theorem cmpLaysP {B g c N : Nat} {rs : List Value} {Ls : List (List Int)} {w : World} (hN : Ls.length = N + 1) (hm9 : ∀ j, j < N + 1 → (rowOf Ls j).length ≤ 1000) (ho : OwnPS w B (some ⟨g, 0, none⟩) c rs Ls) (size : Nat) :
    Go.Proofs.CmpLays1 Try.prog 58 #[] (encP (N := N) rs) (cmpR Ls) g 0 size w := by
  intro k os dk _ x y
  have far : ∀ i : Fin (N + 1), ∃ A c, encP rs i = .slice A (rowOf Ls i.1).length c ∧ SlI (Go.Proofs.sortWorld (encP (N := N) rs) w g 0 k dk os) (Go.Proofs.sortWorld (encP (N := N) rs) w g 0 k dk os).heap.size A (rowOf Ls i.1) := fun i => by
    have h1 := ho.2.2.1 i.1 (by rw [hN]; exact i.2)
    have h2 := h1.far (grown_sortP (encP (N := N) rs) w g k dk os) (fun j hj e => pc_ne h1 ho.2.1 j hj e)
    obtain ⟨gg, o, c, e, _, _, _, hs⟩ := h2.sl
    exact ⟨_, c, e, hs⟩
  obtain ⟨A1, c1, e1, s1⟩ := far x
  obtain ⟨A2, c2, e2, s2⟩ := far y
  rw [e1, e2]
  refine Calls.mono (slices_CompareP A1 A2 c1 c2 _ _ _ _ (rowOf Ls x.1) (rowOf Ls y.1) _ rfl rfl s1 s2 (hm9 _ x.2) (hm9 _ y.2)) ?_
  rintro e w' ⟨he, hw⟩
  exact ⟨he, 0, #[], by rw [← hw, Go.Sort.grow_empty]; rfl⟩
theorem impl_SortP (B g c N : Nat) (rs : List Value) (Ls : List (List Int)) (w : World) (hN : Ls.length = N + 1) (hm9 : ∀ j, j < N + 1 → (rowOf Ls j).length ≤ 1000) (hn : N ≤ 1000000) (hB : B ≤ w.heap.size)
    (ho : OwnPS w B (some ⟨g, 0, none⟩) c rs Ls) :
    Calls Try.prog 57 #[.slice (some ⟨g, 0, none⟩) (N + 1) c, .func (.func 58) #[] #[]] w fun e w' => e = .returned (.tuple #[]) ∧
      ∃ (rs' : List Value) (Ls' : List (List Int)), Ls'.Perm Ls ∧ SortP Ls' ∧ OwnPS w' B (some ⟨g, 0, none⟩) c rs' Ls' ∧ Below B w w' := by
  have hout := ho.2.1
  rw [hN] at hout
  have hbg : B ≤ g ∧ g < w.heap.size := hout.lt g rfl
  have eg : ∀ args w, (callFunc 58 args).run Try.prog w = .ok (.enter 58 args) w := enters_of Try.func58 (by kernel_rfl) rfl
  have hsz : (List.finRange (N + 1)).toArray.size = N + 1 := by simp
  have hcm := cmpLaysP hN hm9 ho (N + 1)
  have hk := holdsP (N := N) rfl hout
  have h1 : OneCell (encP (N := N) rs) := fun i => by
    obtain ⟨A, c, e⟩ := (ho.2.2.1 i.1 (by rw [hN]; exact i.2)).form
    unfold encP
    rw [e]
    rfl
  have hcon := Any.slices_SortFunc srtPL (encP (N := N) rs) h1 (cmpR Ls) (swoP Ls) 58 #[] g 0 c (List.finRange (N + 1)).toArray w eg (by rw [hsz]; exact hcm) hk hbg.2 (by rw [hsz]; omega)
  rw [hsz] at hcon
  refine Calls.mono hcon ?_
  rintro e w' ⟨rfl, d', k, os, hp, hs, rfl⟩
  obtain ⟨p1, _, p3⟩ := hp
  have hd : d'.size = N + 1 := p1.trans hsz
  rw [extract_allP d' _ hd, extract_allP _ _ hsz] at p3
  have hL : d'.toList.length = N + 1 := by simpa using hd
  have hperm : d'.toList.Perm (List.finRange (N + 1)) := p3
  have hall : (List.finRange (N + 1)).map (fun i => rowOf Ls i.1) = Ls := by
    refine List.ext_getElem (by simp [hN]) fun j h1 h2 => ?_
    simp [rowOf, h2]
  have hnd : d'.toList.Nodup := hperm.nodup_iff.2 (List.nodup_finRange _)
  have hgr := grown_sortP (encP (N := N) rs) w g k d' os
  have hrv : ∀ j (hj : j < d'.toList.length), rvOf (d'.toList.map (encP rs)) j = rvOf rs (d'.toList[j]).1 := fun j hj => by
    conv => lhs; unfold rvOf
    rw [List.getD_eq_getElem?_getD, List.getElem?_map, List.getElem?_eq_getElem hj]
    rfl
  have hrw : ∀ j (hj : j < d'.toList.length), rowOf (d'.toList.map fun i => rowOf Ls i.1) j = rowOf Ls (d'.toList[j]).1 := fun j hj => by
    conv => lhs; unfold rowOf
    rw [List.getD_eq_getElem?_getD, List.getElem?_map, List.getElem?_eq_getElem hj]
    rfl
  refine ⟨rfl, d'.toList.map (encP rs), d'.toList.map (fun i => rowOf Ls i.1), ?_, ?_, ⟨by simp, ?_, fun j hj => ?_, fun i j hi hj hij q hq => ?_⟩, ?_⟩
  · have := hperm.map (fun i => rowOf Ls i.1)
    rwa [hall] at this
  · unfold SortP
    rw [List.pairwise_map, List.pairwise_iff_getElem]
    intro i j hi hj hij
    have := hs i j (Nat.zero_le _) hij (by simpa [hd] using hj)
    rw [ltR_iff, getElem!_pos d' j (by simpa using hj), getElem!_pos d' i (by simpa using hi)] at this
    simpa using this
  · rw [List.length_map, hL]
    exact own_sortP (encP (N := N) rs) d' hd hout
  · rw [List.length_map] at hj
    rw [hrv j hj, hrw j hj]
    have h1 := ho.2.2.1 (d'.toList[j]).1 (by rw [hN]; exact (d'.toList[j]).2)
    exact h1.far hgr (fun q hq e => pc_ne h1 ho.2.1 q hq e)
  · rw [List.length_map] at hi hj
    rw [hrv i hi] at hq
    rw [hrv j hj]
    refine ho.2.2.2 _ _ (by rw [hN]; exact (d'.toList[i]).2) (by rw [hN]; exact (d'.toList[j]).2) (fun e => hij ?_) q hq
    rcases Nat.lt_trichotomy i j with hlt | hlt | hlt
    · exact absurd (Fin.ext e) (List.pairwise_iff_getElem.1 hnd i j hi hj hlt)
    · exact hlt
    · exact absurd (Fin.ext e.symm) (List.pairwise_iff_getElem.1 hnd j i hj hi hlt)
  · exact (Below.refl B w).grown hgr hB (fun q hq => by have h1 : g = q := Option.some.inj hq; omega)
end Go.Proofs.Ytlnnnjnboknoeaa
