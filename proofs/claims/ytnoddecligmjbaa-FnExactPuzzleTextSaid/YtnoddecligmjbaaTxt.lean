/- Texts: a list of bytes as a string; a row of bytes that the program makes, appended to and turned into a text. -/
import Derived.Test.YtnoddecligmjbaaAppI
import Derived.Laws.IdiomStrings
namespace Go.Proofs.Ytnoddecligmjbaa
set_option linter.unusedVariables false
open Go.RowKit

def bsL (L : List UInt8) : ByteArray := ⟨L.toArray⟩
theorem bsL_nil : bsL [] = ⟨#[]⟩ := rfl
theorem bsL_snoc (L : List UInt8) (x : UInt8) : bsL (L ++ [x]) = bsL L ++ ⟨#[x]⟩ := by
  apply ByteArray.ext
  simp [bsL]
theorem bsL_size (L : List UInt8) : (bsL L).size = L.length := by simp [bsL, ByteArray.size]
def ubs (L : List UInt8) : List Value := L.map fun x => .int .u8 (x.toNat : Int)
theorem ubs_length (L : List UInt8) : (ubs L).length = L.length := by simp [ubs]
theorem ubs_snoc (L : List UInt8) (y : UInt8) : ubs L ++ [.int .u8 (y.toNat : Int)] = ubs (L ++ [y]) := by simp [ubs]
theorem infoU : (Try.prog.info? 5).map (fun i => (i.zero, i.size, i.bytes)) = some (some (.int .u8 0), 1, 1) := by kernel_rfl
theorem append1U {ops : Array Oper} {rest : List Oper} {o : Oper} {a : Act} {Q : Exit → Act → World → Prop} (w : World) (hgd : o.guard = none) (s x : Operand) (ho : o.op = .call { callee := .builtin .append, args := #[s, x], argTypes := #[50, 50] })
    (base : Nat) (v : Value) (n : Nat) (L : List UInt8) (hn : L.length = n) (hs : a.eval s = v) (hown : w.ownsRow base 5 1 v n (ubs L)) (g : Nat) (y : UInt8) (z : Int) (hz : z = (y.toNat : Int)) (hx : a.eval x = .slice (some ⟨g, 0, none⟩) 1 1)
    (hc : w.cell? ⟨g, 0, none⟩ = some (.int .u8 z)) (hlen : n ≤ 1000000) (hbase : base ≤ w.heap.size)
    (h : ∀ A' c' w', w'.ownsRow base 5 1 (.slice A' (n + 1) c') (n + 1) (ubs (L ++ [y])) → w.grownBy w' v.ownBlock → wpList Try.prog ops Q rest (a.put o.dst (.slice A' (n + 1) c')) w') :
    wpList Try.prog ops Q (o :: rest) a w := by
  subst hz
  obtain ⟨i0, hi, hz0, hz1, hz2⟩ := info_parts infoU
  refine wpList_append_own w hgd s x 50 ho base 5 i0 (.int .u8 0) 1 1 Try.underlying50 hi hz0 hz1 hz2 rfl (by decide) v n (ubs L) hs hown ⟨g, 0, none⟩ 1 1 [.int .u8 (y.toNat : Int)] hx rfl ?_ ?_ ?_ ?_ hbase ?_
  · intro j u hu
    match j, hu with
    | 0, hu =>
      rw [Addr.add_zero', hc]
      simpa using hu
  · intro u hu
    simp at hu
    subst hu
    rfl
  · unfold maxLen; omega
  · omega
  · intro v' w' hown' hg _
    rw [ubs_snoc] at hown'
    obtain ⟨A', c', rfl⟩ := own_form hown'
    exact h A' c' w' hown' hg
/-- letters made a text -/
theorem run_text {w : World} {base n c : Nat} {A : Option Addr} {L : List UInt8} (hn : L.length = n) (h : w.ownsRow base 5 1 (.slice A n c) n (ubs L)) : (convert 50 9 (.slice A n c)).run Try.prog w = .ok (.string (bsL L)) w := by
  rcases Nat.eq_zero_or_pos n with h0 | h0
  · subst h0
    have : L = [] := List.length_eq_zero_iff.1 hn
    subst this
    cases A with
    | none => rw [run_convert_bytes_string w _ _ 5 none 0 c Try.underlying50 (by kernel_rfl) (by kernel_rfl)]; rfl
    | some a => exact run_convert_bytes_back w _ _ 5 a c [] Try.underlying50 (by kernel_rfl) (by kernel_rfl) (fun j hj => by simp at hj)
  · obtain ⟨g, cap, hv, hb, hlt⟩ := h.form h0
    cases hv
    subst hn
    exact run_convert_bytes_back w _ _ 5 ⟨g, 0, none⟩ c L Try.underlying50 (by kernel_rfl) (by kernel_rfl) (fun j hj => by
      rw [Addr.add_lit, Nat.zero_add, h.cellAt j (by omega)]
      simp [ubs, hj])
end Go.Proofs.Ytnoddecligmjbaa
