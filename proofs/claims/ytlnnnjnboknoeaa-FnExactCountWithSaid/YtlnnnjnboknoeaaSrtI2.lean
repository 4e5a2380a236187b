/- slices.Sort over numbers: the library contract at this seat's numbers. -/
import Derived.Shelf.Sort.Plain
import Derived.Test.YtlnnnjnboknoeaaLawM
namespace Go.Proofs.Ytlnnnjnboknoeaa
set_option linter.unusedVariables false
open Go.Shelf Go.RowKit

def srtIR : Go.Shelf.Ren := ⟨fun | 125 => 97 | 128 => 125 | 129 => 126 | 189 => 59 | 215 => 127 | 216 => 134 | 257 => 99 | 294 => 128 | 295 => 129 | 296 => 130 | 297 => 131 | 298 => 132 | 299 => 133 | 300 => 135 | 301 => 136 | 328 => 150 | 329 => 146 | 330 => 147 | 331 => 151 | 332 => 152 | 343 => 156 | n => n,
  fun | 0 => 0 | 3 => 3 | 4 => 4 | 5 => 5 | 9 => 9 | 28 => 35 | 46 => 94 | 51 => 116 | 53 => 118 | 131 => 40 | 182 => 109 | 183 => 110 | 218 => 127 | 222 => 131 | 228 => 137 | 229 => 138 | n => n, fun  | n => n⟩
theorem srtIL : Go.Proofs.Lays.n189 Try.prog srtIR := {
  mixed := by kernel_rfl
  f125 := Try.func97.trans (congrArg some (by kernel_rfl))
  f128 := Try.func125.trans (congrArg some (by kernel_rfl))
  f129 := Try.func126.trans (congrArg some (by kernel_rfl))
  f189 := Try.func59.trans (congrArg some (by kernel_rfl))
  f215 := Try.func127.trans (congrArg some (by kernel_rfl))
  f216 := Try.func134.trans (congrArg some (by kernel_rfl))
  f257 := Try.func99.trans (congrArg some (by kernel_rfl))
  f294 := Try.func128.trans (congrArg some (by kernel_rfl))
  f295 := Try.func129.trans (congrArg some (by kernel_rfl))
  f296 := Try.func130.trans (congrArg some (by kernel_rfl))
  f297 := Try.func131.trans (congrArg some (by kernel_rfl))
  f298 := Try.func132.trans (congrArg some (by kernel_rfl))
  f299 := Try.func133.trans (congrArg some (by kernel_rfl))
  f300 := Try.func135.trans (congrArg some (by kernel_rfl))
  f301 := Try.func136.trans (congrArg some (by kernel_rfl))
  f328 := Try.func150.trans (congrArg some (by kernel_rfl))
  f329 := Try.func146.trans (congrArg some (by kernel_rfl))
  f330 := Try.func147.trans (congrArg some (by kernel_rfl))
  f331 := Try.func151.trans (congrArg some (by kernel_rfl))
  f332 := Try.func152.trans (congrArg some (by kernel_rfl))
  f343 := Try.func156.trans (congrArg some (by kernel_rfl))
  t0 := Try.underlying0
  a0 := Try.isAgg0
  z0 := Try.sizeOf0
  v0 := Try.zeroValue0
  t3 := Try.underlying3
  a3 := Try.isAgg3
  z3 := Try.sizeOf3
  v3 := Try.zeroValue3
  t4 := Try.underlying4
  a4 := Try.isAgg4
  z4 := Try.sizeOf4
  v4 := Try.zeroValue4
  t5 := Try.underlying5
  a5 := Try.isAgg5
  z5 := Try.sizeOf5
  v5 := Try.zeroValue5
  t9 := Try.underlying9
  a9 := Try.isAgg9
  z9 := Try.sizeOf9
  v9 := Try.zeroValue9
  t28 := Try.underlying35
  a28 := Try.isAgg35
  z28 := Try.sizeOf35
  v28 := Try.zeroValue35
  t46 := Try.underlying94
  a46 := Try.isAgg94
  z46 := Try.sizeOf94
  v46 := Try.zeroValue94
  t51 := Try.underlying116
  a51 := Try.isAgg116
  z51 := Try.sizeOf116
  v51 := Try.zeroValue116
  t53 := Try.underlying118
  a53 := Try.isAgg118
  z53 := Try.sizeOf118
  v53 := Try.zeroValue118
  t131 := Try.underlying40
  a131 := Try.isAgg40
  z131 := Try.sizeOf40
  v131 := Try.zeroValue40
  t182 := Try.underlying109
  a182 := Try.isAgg109
  z182 := Try.sizeOf109
  v182 := Try.zeroValue109
  t183 := Try.underlying110
  a183 := Try.isAgg110
  z183 := Try.sizeOf110
  v183 := Try.zeroValue110
  t218 := Try.underlying127
  a218 := Try.isAgg127
  z218 := Try.sizeOf127
  v218 := Try.zeroValue127
  t222 := Try.underlying131
  a222 := Try.isAgg131
  z222 := Try.sizeOf131
  v222 := Try.zeroValue131
  t228 := Try.underlying137
  a228 := Try.isAgg137
  z228 := Try.sizeOf137
  v228 := Try.zeroValue137
  t229 := Try.underlying138
  a229 := Try.isAgg138
  z229 := Try.sizeOf138
  v229 := Try.zeroValue138
}

theorem grown_sortI {α : Type} [Inhabited α] (enc : α → Value) (w : World) (g m : Nat) (d : Array α) (os : Array Obj) : w.grownBy (Go.Sort.grow (Go.Sort.putRow enc (Go.Sort.ahead w m) g 0 d) os) (some g) where
  os := rfl
  tape := rfl
  output := rfl
  size := by
    rw [Go.Sort.size_grow]
    simp [Go.Sort.putRow, Go.Sort.mapBlock, Go.Sort.ahead]
  block := fun k hk hne => by
    rw [Go.Sort.heap_grow_old _ _ (by simpa [Go.Sort.putRow, Go.Sort.mapBlock, Go.Sort.ahead] using hk)]
    show (w.heap.modify g _)[k]? = _
    rw [Array.getElem?_modify, if_neg (fun e => hne (by rw [e]))]
theorem own_sortI {α : Type} [Inhabited α] (enc : α → Value) {w : World} {B e g n c m : Nat} {os : Array Obj} {xs : List Value} (d : Array α) (hn : d.size = n) (h : w.ownsRow B e 1 (.slice (some ⟨g, 0, none⟩) n c) n xs) :
    (Go.Sort.grow (Go.Sort.putRow enc (Go.Sort.ahead w m) g 0 d) os).ownsRow B e 1 (.slice (some ⟨g, 0, none⟩) n c) n (d.toList.map enc) := by
  rcases h.2 with ⟨h', _⟩ | ⟨g', cap, cur, h', hb, hh, hc, hcm, hs, ht⟩
  · cases h'
  · cases h'
    refine ⟨by simp [hn], .inr ⟨g, c, Go.Sort.putCells enc 0 d cur, rfl, hb, ?_, hc, hcm, ?_, ?_⟩⟩
    · have hlt : g < w.heap.size := by
        have := Array.getElem?_eq_some_iff.1 hh
        exact this.1
      rw [Go.Sort.heap_grow_old _ _ (by simpa [Go.Sort.putRow, Go.Sort.mapBlock, Go.Sort.ahead] using hlt)]
      show (w.heap.modify g _)[g]? = _
      rw [Array.getElem?_modify, if_pos rfl, hh]
      rfl
    · simp [Go.Sort.putCells, hs]
    · refine List.ext_getElem? fun t => ?_
      by_cases hlt : t < n
      · rw [List.getElem?_take_of_lt (by omega), Array.getElem?_toList, List.getElem?_map, Array.getElem?_toList]
        have hcs : t < cur.size := by omega
        simp [Go.Sort.putCells, hcs, hn, hlt]
      · rw [List.getElem?_eq_none (by simp; omega), List.getElem?_eq_none (by simp; omega)]
theorem slices_SortI (B g c n : Nat) (l : List Int) (w : World) (hl : l.length = n) (hn : n ≤ 1000000000) (hB : B ≤ w.heap.size) (h : w.ownsRow B 3 1 (.slice (some ⟨g, 0, none⟩) n c) n (ics l)) :
    Calls Try.prog 59 #[.slice (some ⟨g, 0, none⟩) n c] w fun e w' => e = .returned (.tuple #[]) ∧ w'.ownsRow B 3 1 (.slice (some ⟨g, 0, none⟩) n c) n (ics (l.mergeSort fun x y => decide (x ≤ y))) ∧ Below B w w' := by
  subst hl
  have hg := h.lt g rfl
  have hH : Go.Sort.Holds (Value.int .i64) w g 0 l.toArray := fun j hj => by
    have hj' : j < l.length := by simpa using hj
    rw [Nat.zero_add]
    refine ⟨?_, h.frozenAt j⟩
    rw [h.cellAt j (by omega), ics_get _ _ hj']
    simp [hj']
  refine Calls.mono (Any.slices_Sort_int srtIL g 0 c l w hH hg.2 (by omega)) ?_
  rintro e w' ⟨rfl, m, os, rfl⟩
  have hsz : (l.mergeSort fun x y => decide (x ≤ y)).toArray.size = l.length := by simp
  have h1 := own_sortI (Value.int .i64) (m := m) (os := os) (l.mergeSort fun x y => decide (x ≤ y)).toArray hsz h
  refine ⟨rfl, ?_, ?_⟩
  · have e : ((l.mergeSort fun x y => decide (x ≤ y)).toArray).toList.map (Value.int .i64) = ics (l.mergeSort fun x y => decide (x ≤ y)) := by simp [ics]
    rwa [e] at h1
  · exact (Below.refl B w).grown (grown_sortI (Value.int .i64) w g m _ os) hB (fun q hq => by have h1 : g = q := Option.some.inj hq; omega)
end Go.Proofs.Ytlnnnjnboknoeaa
