/- All triangulations: the model's. -/
import Derived.Test.YtlnnnjnboknoeaaAltM
import Derived.Test.YtlnnnjnboknoeaaDDB
import Derived.Test.YtlnnnjnboknoeaaDiag
import Derived.Test.YtlnnnjnboknoeaaTurnPolygonW
import Derived.Test.YtlnnnjnboknoeaaAppS
import Derived.Deep.RegionLaw
namespace Go.Proofs.Ytlnnnjnboknoeaa
set_option linter.unusedVariables false
open Go.RowKit

/-- what a call keeps of rows of diagonals, wherever they lie -/
def Fr (w w' : World) : Prop := w.heap.size ≤ w'.heap.size ∧ ∀ (bb n : Nat) (v : Value) (xs : List Value), w.ownsRow bb 49 2 v n xs → w'.ownsRow bb 49 2 v n xs
theorem Fr.refl (w : World) : Fr w w := ⟨Nat.le_refl _, fun _ _ _ _ h => h⟩
theorem Fr.trans {w w' w'' : World} (h : Fr w w') (h' : Fr w' w'') : Fr w w'' := ⟨Nat.le_trans h.1 h'.1, fun bb n v xs ho => h'.2 bb n v xs (h.2 bb n v xs ho)⟩
theorem Fr.of_below {w w' : World} (h : Below w.heap.size w w') : Fr w w' := ⟨h.size, fun _ _ _ _ ho => own_kept ho h⟩
theorem Fr.alloc {w w' : World} (h : Fr w w') (o : Obj) : Fr w (w'.alloc o) := h.trans (Fr.of_below ((Below.refl _ _).alloc (Nat.le_refl _) o))
theorem Fr.grown {w w' : World} {base e n : Nat} {v : Value} {xs : List Value} (hg : w.grownBy w' v.ownBlock) (ho : w.ownsRow base e 1 v n xs) (hne : 49 ≠ e) : Fr w w' :=
  ⟨hg.size, fun _ _ _ _ h => own_far h hg (fun k hk e => own_ne h ho hne k hk e)⟩
/-- the list told so far, in its box -/
def Told (w : World) (base g : Nat) (L : List (List (Int × Int))) : Prop :=
  ∃ A c rs, w.ownsRow base 81 1 (.slice (some ⟨g, 0, none⟩) 1 1) 1 [.slice A L.length c] ∧ OwnDD w base A c rs L
theorem Told.kept {w w' : World} {base g : Nat} {L : List (List (Int × Int))} (h : Told w base g L) (hb : Below w.heap.size w w') : Told w' base g L := by
  obtain ⟨A, c, rs, h1, h2⟩ := h
  exact ⟨A, c, rs, own_kept h1 hb, h2.kept hb⟩
def LookE (w : World) (base g : Nat) (L : List (List (Int × Int))) (e : Ending) (w' : World) : Prop :=
  e = .returned (.tuple #[]) ∧ Told w' base g L ∧ Below base w w' ∧ Fr w w'

/-- rows kept where a new row is written -/
theorem Fr.new {w1 w' w5 : World} {row : Option Nat} (h : Fr w1 w') (hg : w'.grownBy w5 row) (hr : ∀ k, row = some k → w1.heap.size ≤ k) : Fr w1 w5 :=
  ⟨Nat.le_trans h.1 hg.size, fun bb n v xs ho => own_far (h.2 bb n v xs ho) hg (fun k hk e => by
    have h1 := (ho.lt k hk).2
    have h2 := hr k e.symm
    omega)⟩
theorem Fr.drew {w w' : World} (h : Fr w w') : Fr w w'.drew := h
theorem own_oneDD2 (w : World) (v : Value) : (w.alloc (.cells #[v] 25)).ownsRow w.heap.size 25 1 (.slice (some ⟨w.heap.size, 0, none⟩) 1 1) 1 [v] := ⟨rfl, .inr ⟨w.heap.size, 1, #[v], rfl, Nat.le_refl _, heap_alloc_new w _, Nat.le_refl _, by decide, rfl, rfl⟩⟩
theorem own_oneD (w : World) (u v : Int) : (w.alloc (.cells #[.int .i64 u, .int .i64 v] 49)).ownsRow w.heap.size 49 2 (.slice (some ⟨w.heap.size, 0, none⟩) 1 1) 1 (dcs [(u, v)]) := ⟨rfl, .inr ⟨w.heap.size, 1, #[.int .i64 u, .int .i64 v], rfl, Nat.le_refl _, heap_alloc_new w _, Nat.le_refl _, by decide, rfl, rfl⟩⟩
theorem box2a (w : World) (u v : Int) : ((w.alloc (.cells #[] 49)).alloc (.cells #[.int .i64 u, .int .i64 v] 49)).drew.cell? ⟨w.heap.size + 1, 0, none⟩ = some (.int .i64 u) := by simp [go_sem]
theorem box2b (w : World) (u v : Int) : ((w.alloc (.cells #[] 49)).alloc (.cells #[.int .i64 u, .int .i64 v] 49)).drew.cell? ⟨w.heap.size + 1, 1, none⟩ = some (.int .i64 v) := by simp [go_sem]
theorem box3a (w : World) (u v : Int) : ((w.alloc (.cells #[.int .i64 u, .int .i64 v] 49)).alloc (.cells #[] 49)).drew.cell? ⟨w.heap.size, 0, none⟩ = some (.int .i64 u) := by simp [go_sem]
theorem box3b (w : World) (u v : Int) : ((w.alloc (.cells #[.int .i64 u, .int .i64 v] 49)).alloc (.cells #[] 49)).drew.cell? ⟨w.heap.size, 1, none⟩ = some (.int .i64 v) := by simp [go_sem]
/-- a list told more -/
theorem look_end {w w5 w7 : World} {base g lb c5 c0 c7 : Nat} {A0 A5 A7 : Option Addr} {rs0 : List Value} {Ls : List (List (Int × Int))} {b : List (Int × Int)}
    (hbox : w.ownsRow base 81 1 (.slice (some ⟨g, 0, none⟩) 1 1) 1 [.slice A0 Ls.length c0]) (hO : OwnDD w base A0 c0 rs0 Ls) (hb5 : Below w.heap.size w w5)
    (own5 : w5.ownsRow w.heap.size 49 2 (.slice A5 lb c5) lb (dcs b)) (hlb : b.length = lb) (hbase : base ≤ w.heap.size)
    (own7 : w7.ownsRow base 25 1 (.slice A7 (Ls.length + 1) c7) (Ls.length + 1) (rs0 ++ [.slice A5 lb c5])) (hg7 : (w5.alloc (.cells #[.slice A5 lb c5] 25)).grownBy w7 (Value.slice A0 Ls.length c0).ownBlock) :
    (w7.cell? ⟨g, 0, none⟩ = some (.slice A0 Ls.length c0) ∧ w7.frozen? ⟨g, 0, none⟩ = false) ∧ LookE w base g (Ls ++ [b]) (.returned (.tuple #[])) (w7.setCell ⟨g, 0, none⟩ (.slice A7 (Ls.length + 1) c7)) := by
  have O5 := hO.kept hb5
  have X5 := own_kept hbox hb5
  have X7 := own_far (X5.alloc (.cells #[.slice A5 lb c5] 25)) hg7 (own_ne X5 O5.2.1 (by decide))
  have O7 : OwnDD w7 base A7 c7 (rs0 ++ [.slice A5 lb c5]) (Ls ++ [b]) :=
    OwnDD.app (b := w.heap.size) (w2 := w5) (o := .cells #[.slice A5 lb c5] 25) O5 hO.blk (by rw [hlb]; exact own5.mono hbase) (fun k hk => (own5.lt k hk).1) own7 hg7
  obtain ⟨X8, G8⟩ := X7.stored 0 (.slice A7 (Ls.length + 1) c7)
  have hl : (Ls ++ [b]).length = Ls.length + 1 := by simp
  have B7 : Below base w w7 := below_grown ((hb5.mono hbase).alloc (Nat.le_trans hbase hb5.size) (.cells #[.slice A5 lb c5] 25)) hg7 hbase (fun k hk => (O5.2.1.lt k hk).1)
  have F7 : Fr w w7 := ((Fr.of_below hb5).alloc (.cells #[.slice A5 lb c5] 25)).trans (Fr.grown hg7 (O5.2.1.alloc _) (by decide))
  refine ⟨⟨X7.cellAt 0 (by omega), X7.frozenAt 0⟩, rfl, ⟨A7, c7, _, by rw [hl]; exact X8, O7.1, own_far O7.2.1 G8 (own_ne O7.2.1 X7 (by decide)), fun j hj => own_far (O7.2.2.1 j hj) G8 (own_ne (O7.2.2.1 j hj) X7 (by decide)), O7.2.2.2⟩, ?_, ?_⟩
  · exact below_grown B7 G8 hbase (fun k hk => (X7.lt k hk).1)
  · exact F7.trans (Fr.grown (v := .slice (some ⟨g, 0, none⟩) 1 1) G8 X7 (by decide))

end Go.Proofs.Ytlnnnjnboknoeaa
