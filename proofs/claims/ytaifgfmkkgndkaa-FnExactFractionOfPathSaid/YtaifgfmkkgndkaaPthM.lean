/- Paths of fractions: mathematics. -/
import Derived.Test.YtaifgfmkkgndkaaNbM
import Derived.Test.YtaifgfmkkgndkaaNbB
namespace Go.Proofs.Ytaifgfmkkgndkaa
set_option linter.unusedVariables false

/-- the path from the mediant of l and r to f, of less than k letters; what is told so far stands ahead -/
def pth (f : Int × Int) : Nat → Int × Int → Int × Int → List UInt8 → Option (List UInt8)
  | 0, _, _, _ => none
  | k + 1, l, r, out => if med l r = f then some out else if 0 < crs (med l r) f then pth f k (med l r) r (out ++ [114]) else pth f k l (med l r) (out ++ [108])
theorem pth_done {f l r : Int × Int} {k : Nat} {out : List UInt8} (h : med l r = f) : pth f (k + 1) l r out = some out := if_pos h
theorem pth_up {f l r : Int × Int} {k : Nat} {out : List UInt8} (h : med l r ≠ f) (h2 : 0 < crs (med l r) f) : pth f (k + 1) l r out = pth f k (med l r) r (out ++ [114]) := by
  conv => lhs; unfold pth
  rw [if_neg h, if_pos h2]
theorem pth_down {f l r : Int × Int} {k : Nat} {out : List UInt8} (h : med l r ≠ f) (h2 : ¬ 0 < crs (med l r) f) : pth f (k + 1) l r out = pth f k l (med l r) (out ++ [108]) := by
  conv => lhs; unfold pth
  rw [if_neg h, if_neg h2]
def pthR (a b : Int) : Option (List UInt8) := pth (a, b) 101 (0, 1) (1, 0) []

/-- the fraction with a path -/
def fop : List UInt8 → Int × Int → Int × Int → Option (Int × Int)
  | [], l, r => if nbB (med l r).1 (med l r).2 = true then some (med l r) else none
  | c :: s, l, r => if nbB (med l r).1 (med l r).2 = false then none else if c = 108 then fop s l (med l r) else if c = 114 then fop s (med l r) r else none
theorem fop_bad {s : List UInt8} {l r : Int × Int} (h : nbB (med l r).1 (med l r).2 = false) : fop s l r = none := by
  cases s with
  | nil => unfold fop; rw [if_neg (by rw [h]; simp)]
  | cons c s => unfold fop; rw [if_pos h]
theorem fop_nil {l r : Int × Int} (h : nbB (med l r).1 (med l r).2 = true) : fop [] l r = some (med l r) := if_pos h
theorem fop_l {s : List UInt8} {l r : Int × Int} (h : nbB (med l r).1 (med l r).2 = true) : fop (108 :: s) l r = fop s l (med l r) := by
  conv => lhs; unfold fop
  rw [if_neg (by rw [h]; simp), if_pos rfl]
theorem fop_r {s : List UInt8} {l r : Int × Int} (h : nbB (med l r).1 (med l r).2 = true) : fop (114 :: s) l r = fop s (med l r) r := by
  conv => lhs; unfold fop
  rw [if_neg (by rw [h]; simp), if_neg (by decide), if_pos rfl]
theorem fop_no {c : UInt8} {s : List UInt8} {l r : Int × Int} (h1 : c ≠ 108) (h2 : c ≠ 114) : fop (c :: s) l r = none := by
  conv => lhs; unfold fop
  rw [if_neg h1, if_neg h2]
  split <;> rfl
end Go.Proofs.Ytaifgfmkkgndkaa
