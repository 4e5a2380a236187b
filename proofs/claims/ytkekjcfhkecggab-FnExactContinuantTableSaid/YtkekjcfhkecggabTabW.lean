/- ContinuantTable: the model's and the program's contract, and the law's walk. -/
import Derived.Test.YtkekjcfhkecggabSSA
import Derived.Test.YtkekjcfhkecggabContI
import Derived.Test.YtkekjcfhkecggabPutA
import Derived.Deep.RegionLaw
import Derived.Test.YtkekjcfhkecggabContinuantTableC
namespace Go.Proofs.Ytkekjcfhkecggab
set_option linter.unusedVariables false
open Go.RowKit

/-- the first d continuants from t on -/
def rowC (l : List Int) (t d : Nat) : List Int := (List.range d).map fun e => ctv (-1) ((l.drop t).take (e + 1))
theorem rowC_length (l : List Int) (t d : Nat) : (rowC l t d).length = d := by simp [rowC]
theorem rowC_succ (l : List Int) (t d : Nat) : rowC l t (d + 1) = rowC l t d ++ [ctv (-1) ((l.drop t).take (d + 1))] := by simp [rowC, List.range_succ]
/-- the first m rows -/
def ctP (l : List Int) (m : Nat) : List (List Int) := (List.range m).map fun t => rowC l t (l.length - t)
theorem ctP_length (l : List Int) (m : Nat) : (ctP l m).length = m := by simp [ctP]
theorem ctP_succ (l : List Int) (m : Nat) : ctP l (m + 1) = ctP l m ++ [rowC l m (l.length - m)] := by simp [ctP, List.range_succ]
theorem ctP_row (l : List Int) (m j : Nat) (h : j < m) : rowOf (ctP l m) j = rowC l j (l.length - j) := by
  unfold rowOf ctP
  simp [h]
def ctL (l : List Int) : List (List Int) := if good l = true then ctP l l.length else []
theorem ctL_length (l : List Int) : (ctL l).length ≤ 10 := by
  unfold ctL
  split
  · rename_i h
    have := (good_iff.1 h).1
    rw [ctP_length]; exact this
  · simp
theorem ctL_row (l : List Int) (j : Nat) (hj : j < (ctL l).length) : (rowOf (ctL l) j).length ≤ 10 := by
  unfold ctL at hj ⊢
  split
  · rename_i h
    rw [if_pos h, ctP_length] at hj
    have := (good_iff.1 h).1
    rw [ctP_row l _ j hj, rowC_length]
    omega
  · rename_i h
    rw [if_neg h] at hj
    simp at hj
theorem ctL_pre (l : List Int) : pre (ctL l) (ctL l).length ≤ 1000000 := by
  have h1 := pre_bd (ctL l) 10 (ctL_row l) _ (Nat.le_refl _)
  have h2 := ctL_length l
  omega
theorem retC_no' {l : List Int} {w w' : World} (h : good l = false) (hb : Below w.heap.size w w') : RetSS w (ctL l) (good l) (.returned (.tuple #[.slice none 0 0, .bool false])) w' := by
  have e : ctL l = [] := if_neg (by rw [h]; simp)
  rw [e, h]
  exact ⟨none, 0, [], rfl, OwnSS.nil_, hb⟩
theorem retC_yes {l : List Int} {n : Nat} {w w' : World} {A : Option Addr} {c : Nat} {rs : List Value} (h : good l = true) (hn : l.length = n) (ho : OwnSS w' w.heap.size A c rs (ctP l n)) (hb : Below w.heap.size w w') :
    RetSS w (ctL l) (good l) (.returned (.tuple #[.slice A n c, .bool true])) w' := by
  have e : ctL l = ctP l n := by unfold ctL; rw [if_pos h, hn]
  rw [e, h]
  exact ⟨A, c, rs, by rw [ctP_length], ho, hb⟩
/-- a part of a slice -/
theorem SlI.part {w : World} {B b off : Nat} {l : List Int} (h : SlI w B (some ⟨b, off, none⟩) l) (t d : Nat) : SlI w B (some ⟨b, off + t, none⟩) ((l.drop t).take d) := (h.cutAt t).take d

set_option maxRecDepth 100000 in
set_option maxHeartbeats 3200000 in
theorem spec_ContinuantTable (A : Option Addr) (c B : Nat) (l : List Int) (w : World) (h : SlI w B A l) (hB : B ≤ w.heap.size) (hl : l.length ≤ 1048576) (hlc : l.length ≤ c) :
    Calls Try.prog 21 #[.slice A l.length c] w (RetSS w (ctL l) (good l)) := by
  obtain ⟨n, hn⟩ : ∃ n, l.length = n := ⟨_, rfl⟩
  rw [hn] at hl hlc ⊢
  have Hn := Lib.hid hn
  go_enter Try.func21, Try.ntmps21
  go_wp2_with fail
  refine (spec_ctGood A _ c B l _ Hn.out h hl).mono ?_
  rintro e w1 ⟨rfl, rfl⟩
  cases hg : good l
  · have HE := Lib.hid (retC_no' (w := w) hg (Below.refl _ _))
    clear h hn hg
    go_wp2
    go_ret2
    exact HE.out
  · have n10 : n ≤ 10 := by have := (good_iff.1 hg).1; omega
    have Hg := Lib.hid hg
    have Hsm := Lib.hid (good_small hg)
    have H := Lib.hid h
    clear h hn
    go_wp2
    go_loopw [4, 5, 6, 7, 13] (fun v _ _ _ i wr => ∃ (t : Nat) (A' : Option Addr) (c' : Nat) (rs : List Value), t ≤ n ∧ i = .int .i64 t ∧ v = .slice A' t c' ∧ OwnSS wr w.heap.size A' c' rs (ctP l t) ∧ Below w.heap.size w wr) (fun _ _ _ _ i _ => n - (intOf i).toNat)
    case atStart => exact ⟨0, none, 0, [], Nat.zero_le _, rfl, rfl, OwnSS.nil_, Below.refl _ _⟩
    case round =>
      obtain ⟨t, A', c', rs, ht, rfl, rfl, ho, hb⟩ := hrel
      obtain ⟨w0, hw0⟩ : ∃ w0, w0 = wr := ⟨_, rfl⟩
      subst hw0
      have hsz := hb.size
      by_cases hlt : t < n
      · have t0 : (0 : Int) ≤ (t : Int) := by omega
        have t1 : (t : Int) < (n : Int) := by omega
        have t2 : (t : Int) ≤ 10 := by omega
        have Hst := Lib.hid (ctP_succ l t)
        have Hl := Lib.hid (ctP_length l t)
        have Ho := Lib.hid ho
        have Hb := Lib.hid hb
        have Hs := Lib.hid (H.out.below (hb.mono hB))
        obtain ⟨b', off, rfl, hbB, hc⟩ := Hs.out (by rw [Hn.out]; omega)
        clear ho hb hc
        go_wp2
        go_loopw [6, 7] (fun v i wr => ∃ (d : Nat) (A2 : Option Addr) (c2 : Nat), t + d ≤ n ∧ i = .int .i64 ((t : Int) + 1 + (d : Int)) ∧ v = .slice A2 d c2 ∧ wr.ownsRow w0.heap.size 3 1 (.slice A2 d c2) d (ics (rowC l t d)) ∧ Below w0.heap.size w0 wr) (fun _ i _ => n + 1 - (intOf i).toNat)
        case atStart => exact ⟨0, none, 0, by omega, by simp, rfl, World.ownsRow_nil _ _ _ _, Below.refl _ _⟩
        case round =>
          obtain ⟨d, A2, c2, hd, rfl, rfl, ho2, hb2⟩ := hrel
          have hob := Lib.hid ho2.lt
          have hsz2 := hb2.size
          by_cases hlt2 : t + d < n
          · have d0 : (0 : Int) ≤ (d : Int) := by omega
            have d1 : (t : Int) + 1 + (d : Int) ≤ (n : Int) := by omega
            have d2 : (t : Int) ≤ (t : Int) + 1 + (d : Int) := by omega
            have d3 : (0 : Int) ≤ (t : Int) + 1 + (d : Int) := by omega
            have d4 : (t : Int) + 1 + (d : Int) ≤ (c : Int) := by omega
            have d5 : ((t : Int) + 1 + (d : Int)).toNat = t + 1 + d := by omega
            have d6 : ¬ c = t := by omega
            have d7 : d ≤ 1000000 := by omega
            have d8 : ((t + 1 + d : Nat) : Int) - (t : Int) = (d : Int) + 1 := by omega
            have Hsg := Lib.hid ((Hs.out.keep (w' := wr) (fun b o hbb => hb2.cell (p := ⟨b, o, none⟩) (by show b < w0.heap.size; omega))).part t (d + 1))
            have Hseg : Hid (((l.drop t).take (d + 1)).length = t + 1 + d - t) := Lib.hid (by rw [List.length_take, List.length_drop, Hn.out]; omega)
            have Hst2 := Lib.hid (rowC_succ l t d)
            have Hl2 := Lib.hid (rowC_length l t d)
            have Ho2 := Lib.hid ho2
            have Hb2 := Lib.hid hb2
            have Hsm2 := Lib.hid ((Hsm.out.drop t).take (d + 1))
            have e10 : t + 1 + d - t ≤ 10 := by omega
            clear ho2 hb2
            go_wp2_with fail
            refine (spec_ctValue _ _ _ B ((l.drop t).take (d + 1)) (-1) _ Hseg.out (.inr rfl) Hsg.out Hsm2.out e10).mono ?_
            rintro e w4 ⟨rfl, rfl⟩
            generalize ctv (-1) ((l.drop t).take (d + 1)) = x at *
            generalize rowC l t d = R at *
            have own3 := Ho2.out.alloc (.cells #[.int .i64 x] 3)
            have hb3 := Hb2.out.alloc hsz2 (.cells #[.int .i64 x] 3)
            have Hb3 := Lib.hid hb3
            clear hb3 d5 d8
            go_wp2_with (at_builtin; refine append1In _ rfl _ _ rfl w0.heap.size (.slice A2 d c2) d R Hl2.out rfl own3 wr.heap.size x rfl ?c1 d7 Hb3.out.size ?_; (case c1 => simp [go_sem]); intro A3 c3 w5 own5 hg5)
            have hb5 := below_grown Hb3.out hg5 (Nat.le_refl _) (fun k hk => (hob.out k hk).1)
            rw [← Hst2.out] at own5
            have Hb5 := Lib.hid hb5
            have Ow5 := Lib.hid own5
            clear hg5 own3 hb5 own5
            go_wp2
            go_roundw
            case rel => exact ⟨d + 1, A3, c3, by omega, by congr 1 <;> omega, rfl, Ow5.out, Hb5.out⟩
            case measure => (first | (simp [intOf]; done) | (simp [intOf]; omega))
          · have hdn : d = n - t := by omega
            have d1 : ¬ (t : Int) + 1 + (d : Int) ≤ (n : Int) := by omega
            have hrow : rowC l t d = rowC l t (l.length - t) := by rw [Hn.out, hdn]
            rw [hrow] at ho2
            have ho3 := Ho.out.kept hb2
            have hbd := below_kept Hb.out (Nat.le_refl _) hb2
            have hblk := Lib.hid Ho.out.blk
            have Ho3 := Lib.hid ho3
            have Ho2 := Lib.hid (ho2.mono hsz)
            have hrb := Lib.hid ho2.lt
            have HR : Hid ((rowC l t (l.length - t)).length = d) := Lib.hid (by rw [rowC_length, Hn.out, hdn])
            have hout : wr.ownsRow w.heap.size 22 1 (.slice A' t c') t rs := by
              have := ho3.2.1
              rwa [Hl.out] at this
            have t3 : t ≤ 1000000 := by omega
            have own3 := hout.alloc (.cells #[.slice A2 d c2] 22)
            have hb3 := hbd.alloc hbd.size (.cells #[.slice A2 d c2] 22)
            have Hb3 := Lib.hid hb3
            clear hrow ho2 hb2 ho3 hbd hout hb3 hdn
            go_wp2_with (at_builtin; refine append1SS _ rfl _ _ rfl w.heap.size (.slice A' t c') t rs rfl own3 wr.heap.size (.slice A2 d c2) rfl rfl ?c1 t3 Hb3.out.size ?_; (case c1 => simp [go_sem]); intro A3 c3 w5 own5 hg5)
            have hb5 := below_grown Hb3.out hg5 (Nat.le_refl _) (fun k hk => (own3.lt k hk).1)
            have hO : OwnSS w5 w.heap.size A3 c3 (rs ++ [.slice A2 d c2]) (ctP l t ++ [rowC l t (l.length - t)]) := by
              refine OwnSS.app (b := w0.heap.size) (w2 := wr) (A := A') (c := c') (o := .cells #[.slice A2 d c2] 22) Ho3.out hblk.out ?_ (fun k hk => (hrb.out k hk).1) ?_ ?_
              · rw [HR.out]; exact Ho2.out
              · rw [Hl.out]; exact own5
              · rw [Hl.out]; exact hg5
            rw [← Hst.out] at hO
            have HO := Lib.hid hO
            have Hb5 := Lib.hid hb5
            clear hg5 own3 own5 hO hb5
            go_wp2
            go_roundw
            case rel => exact ⟨t + 1, A3, c3, _, by omega, by go_num, rfl, HO.out, Hb5.out⟩
            case measure => simp [intOf]; omega
      · obtain rfl : t = n := by omega
        have hE := retC_yes (w := w) Hg.out Hn.out ho hb
        have HE := Lib.hid hE
        clear hE ho hb
        go_wp2
        go_ret2
        exact HE.out

/-- a table in the making: row t is being told, in blocks from b0 on -/
def Tab (wr : World) (base b0 g c t : Nat) (rs : List Value) (Ls : List (List Int)) (R : List Int) : Prop :=
  rs.length = Ls.length ∧ t < Ls.length ∧ wr.ownsRow base 22 1 (.slice (some ⟨g, 0, none⟩) Ls.length c) Ls.length rs ∧
    (∀ j, j < Ls.length → j ≠ t → wr.ownsRow base 3 1 (rvOf rs j) (rowOf Ls j).length (ics (rowOf Ls j)) ∧ ∀ k, (rvOf rs j).ownBlock = some k → k < b0) ∧
    (∀ i j, i < Ls.length → j < Ls.length → i ≠ t → j ≠ t → i ≠ j → ∀ k, (rvOf rs i).ownBlock = some k → some k ≠ (rvOf rs j).ownBlock) ∧ wr.ownsRow b0 3 1 (rvOf rs t) R.length (ics R)
theorem rv_set {rs : List Value} {t j : Nat} {r : Value} (h : t < rs.length) : rvOf (rs.set t r) j = if j = t then r else rvOf rs j := by
  unfold rvOf
  simp only [List.getD_eq_getElem?_getD, List.getElem?_set]
  by_cases e : t = j
  · subst e; simp [h]
  · rw [if_neg e, if_neg (fun x => e x.symm)]
theorem row_set {Ls : List (List Int)} {t j : Nat} {L : List Int} (h : t < Ls.length) : rowOf (Ls.set t L) j = if j = t then L else rowOf Ls j := by
  unfold rowOf
  simp only [List.getD_eq_getElem?_getD, List.getElem?_set]
  by_cases e : t = j
  · subst e; simp [h]
  · rw [if_neg e, if_neg (fun x => e x.symm)]
section
variable {wr : World} {base b0 g c t : Nat} {rs : List Value} {Ls : List (List Int)} {R : List Int}
theorem Tab.start (h : OwnSS wr base (some ⟨g, 0, none⟩) c rs Ls) (ht : t < Ls.length) (hnil : rvOf rs t = .slice none 0 0) : Tab wr base wr.heap.size g c t rs Ls [] :=
  ⟨h.1, ht, h.2.1, fun j hj _ => ⟨h.2.2.1 j hj, h.blk j hj⟩, fun i j hi hj _ _ hij => h.2.2.2 i j hi hj hij, by rw [hnil]; exact World.ownsRow_nil _ _ _ _⟩
theorem Tab.finish (h : Tab wr base b0 g c t rs Ls R) (hb : base ≤ b0) : OwnSS wr base (some ⟨g, 0, none⟩) c rs (Ls.set t R) := by
  obtain ⟨h1, h2, h3, h4, h5, h6⟩ := h
  refine ⟨by rw [List.length_set]; exact h1, by rw [List.length_set]; exact h3, fun j hj => ?_, fun i j hi hj hij k hk => ?_⟩
  · rw [List.length_set] at hj
    rw [row_set h2]
    by_cases e : j = t
    · subst e; rw [if_pos rfl]; exact h6.mono hb
    · rw [if_neg e]; exact (h4 j hj e).1
  · rw [List.length_set] at hi hj
    by_cases e1 : i = t
    · subst e1
      intro e
      have := (h6.lt k hk).1
      have := (h4 j hj (by omega)).2 k e.symm
      omega
    · by_cases e2 : j = t
      · subst e2
        intro e
        have := (h6.lt k e.symm).1
        have := (h4 i hi e1).2 k hk
        omega
      · exact h5 i j hi hj e1 e2 hij k hk
theorem Tab.cell (h : Tab wr base b0 g c t rs Ls R) : wr.cell? ⟨g, t, none⟩ = some (rvOf rs t) := by
  obtain ⟨h1, h2, h3, _⟩ := h
  rw [h3.cellAt t (by omega), rv_get (by rw [h1]; exact h2)]
/-- behind the append: the cell that is stored next -/
theorem Tab.next {w' w7 : World} {r : Value} {R' : List Int} (h : Tab wr base b0 g c t rs Ls R) (hb : Below wr.heap.size wr w') (hg : w'.grownBy w7 (rvOf rs t).ownBlock) (hnew : w7.ownsRow b0 3 1 r R'.length (ics R')) :
    (w7.cell? ⟨g, t, none⟩ = some (rvOf rs t) ∧ w7.frozen? ⟨g, t, none⟩ = false) ∧ Tab (w7.setCell ⟨g, t, none⟩ r) base b0 g c t (rs.set t r) Ls R' ∧ w7.grownBy (w7.setCell ⟨g, t, none⟩ r) (some g) := by
  obtain ⟨h1, h2, h3, h4, h5, h6⟩ := h
  have o3 := own_kept h3 hb
  have o6 := own_kept h6 hb
  have q3 := own_far o3 hg (fun k hk e => own_ne o6 o3 (by decide) k e.symm hk.symm)
  have q4 : ∀ j, j < Ls.length → j ≠ t → w7.ownsRow base 3 1 (rvOf rs j) (rowOf Ls j).length (ics (rowOf Ls j)) := fun j hj e => own_far (own_kept (h4 j hj e).1 hb) hg (fun k hk e2 => by
    have := (h6.lt k e2.symm).1
    have := (h4 j hj e).2 k hk
    omega)
  obtain ⟨s1, s2⟩ := World.ownsRow.stored q3 t r
  have htr : t < rs.length := by rw [h1]; exact h2
  refine ⟨⟨by rw [q3.cellAt t (by omega), rv_get htr], q3.frozenAt t⟩, ⟨by rw [List.length_set]; exact h1, h2, s1, fun j hj e => ?_, fun i j hi hj e1 e2 hij k hk => ?_, ?_⟩, s2⟩
  · rw [rv_set htr, if_neg e]
    exact ⟨own_far (q4 j hj e) s2 (fun k hk e2 => own_ne (q4 j hj e) q3 (by decide) k hk e2), (h4 j hj e).2⟩
  · rw [rv_set htr, if_neg e1] at hk
    rw [rv_set htr, if_neg e2]
    exact h5 i j hi hj e1 e2 hij k hk
  · rw [rv_set htr, if_pos rfl]
    exact own_far hnew s2 (fun k hk e2 => own_ne hnew q3 (by decide) k hk e2)
end
theorem step_cont {ops : Array Oper} {o : Oper} {a : Act} {Q : Exit → Act → World → Prop} {K : Act → World → Prop} {E : Prop} (w : World) (hgd : o.guard = none) (x : Operand)
    (ho : o.op = .call { callee := .value (.func 47), args := #[x], argTypes := #[22] }) (A : Option Addr) (n c B : Nat) (l : List Int) (hx : a.eval x = .slice A n c) (hn : l.length = n) (h10 : n ≤ 10) (hlc : n ≤ c) (h : SlI w B A l) (hsm : Small l)
    (hK : ∀ z, K (a.put o.dst (.int .i64 (ctv (-1) l))) (w.drewN z)) :
    if Region.wanted o (yielded ops a.tmps) = true then Oper.wp Try.prog o a w K Q else E := by
  have hw : Region.wanted o (yielded ops a.tmps) = true := by simp [Region.wanted, hgd]
  rw [if_pos hw]
  have hrun : (execOp a.eval o).run Try.prog w = .ok (.enter 47 #[.slice A n c]) w := by
    have h1 : (#[x].map a.eval) = #[.slice A n c] := by simp [hx]
    unfold execOp
    simp only [ho, resolve, invoke, h1, Sem.run_bind, Result.andThen_ok, Act.eval]
    go_simp
  unfold Oper.wp
  rw [hrun, Oper.upon_enter]
  refine (impl_continuant A n c B l w hn h10 hlc h hsm).mono fun e w' hh => ?_
  obtain ⟨rfl, z, rfl⟩ := hh
  exact hK z

/-- t rows told, the others not yet -/
def ctH (l : List Int) (n t : Nat) : List (List Int) := ctP l t ++ List.replicate (n - t) []
theorem ctH_length (l : List Int) (n t : Nat) (h : t ≤ n) : (ctH l n t).length = n := by simp [ctH, ctP_length]; omega
theorem ctH_zero (l : List Int) (n : Nat) : ctH l n 0 = List.replicate n [] := by simp [ctH, ctP]
theorem ctH_all (l : List Int) (n : Nat) : ctH l n n = ctP l n := by simp [ctH]
theorem ctH_set (l : List Int) (n t : Nat) (h : t < n) (hn : l.length = n) : (ctH l n t).set t (rowC l t (n - t)) = ctH l n (t + 1) := by
  unfold ctH
  rw [List.set_append_right _ _ (by rw [ctP_length]; exact Nat.le_refl _), ctP_length, Nat.sub_self, show n - t = (n - (t + 1)) + 1 by omega, List.replicate_succ, List.set_cons_zero, ctP_succ, List.append_assoc, hn, show n - t = (n - (t + 1)) + 1 by omega]
  rfl

set_option maxRecDepth 100000 in
set_option maxHeartbeats 3200000 in
theorem impl_ContinuantTable (A : Option Addr) (c B : Nat) (l : List Int) (w : World) (h : SlI w B A l) (hB : B ≤ w.heap.size) (hl : l.length ≤ 1048576) (hlc : l.length ≤ c) :
    Calls Try.prog 22 #[.slice A l.length c] w (RetSS w (ctL l) (good l)) := by
  obtain ⟨n, hn⟩ : ∃ n, l.length = n := ⟨_, rfl⟩
  rw [hn] at hl hlc ⊢
  have Hn := Lib.hid hn
  go_enter Try.func22, Try.ntmps22
  go_wp2_with fail
  refine (impl_IsTermList A _ c B l _ Hn.out h hl).mono ?_
  rintro e w1 ⟨rfl, rfl⟩
  cases hg : good l
  · have HE := Lib.hid (retC_no' (w := w) hg (Below.refl _ _))
    clear h hn hg
    go_wp2
    go_ret2
    exact HE.out
  · have n10 : n ≤ 10 := by have := (good_iff.1 hg).1; omega
    have Hg := Lib.hid hg
    have Hsm := Lib.hid (good_small hg)
    have H := Lib.hid h
    obtain ⟨i0', hii, hz0, hz1, hz3⟩ := info_parts infoSl
    have hbytes : i0'.bytes * n ≤ 281474976710656 := by rw [hz3]; omega
    have hmax : n ≤ maxLen := by unfold maxLen; omega
    clear h hn
    go_wp2_with (at_make; refine wpList_make_full _ rfl _ _ _ rfl w.heap.size 22 i0' (.slice none 0 0) 1 Try.underlying32 hii hz0 hz1 _ _ _ _ n rfl rfl rfl rfl hbytes hmax (Nat.le_refl _) ?_; intro w3 hown3 hgrow3)
    have hb3 : Below w.heap.size w w3 := (Below.refl _ _).grown hgrow3 (Nat.le_refl _) (fun _ e => by cases e)
    rw [zerosSS] at hown3
    have hO3 := OwnSS.zeros hown3
    have hN3 : ∀ j, j < n → rvOf (List.replicate n (Value.slice none 0 0)) j = .slice none 0 0 := fun j hj => by
      unfold rvOf
      simp [List.getD_eq_getElem?_getD, List.getElem?_replicate, hj]
    rw [← ctH_zero l n] at hO3
    have HO3 := Lib.hid hO3
    have HN3 := Lib.hid hN3
    have Hb3 := Lib.hid hb3
    clear hown3 hgrow3 hb3 hO3 hN3 hii hz0 hz1 hz3 hbytes hmax
    go_wp2
    go_loopw [5, 6, 15] (fun _ _ i wr => ∃ (t : Nat) (rs : List Value), t ≤ n ∧ i = .int .i64 t ∧ OwnSS wr w.heap.size (some ⟨w.heap.size, 0, none⟩) n rs (ctH l n t) ∧ (∀ j, t ≤ j → j < n → rvOf rs j = .slice none 0 0) ∧ Below w.heap.size w wr) (fun _ _ i _ => n - (intOf i).toNat)
    case atStart => exact ⟨0, _, Nat.zero_le _, rfl, HO3.out, fun j _ hj => HN3.out j hj, Hb3.out⟩
    case round =>
      clear HO3 HN3 Hb3
      obtain ⟨t, rs, ht, rfl, ho, hnil, hb⟩ := hrel
      obtain ⟨w0, hw0⟩ : ∃ w0, w0 = wr := ⟨_, rfl⟩
      subst hw0
      have hsz := hb.size
      by_cases hlt : t < n
      · have t0 : (0 : Int) ≤ (t : Int) := by omega
        have t1 : (t : Int) < (n : Int) := by omega
        have t2 : (t : Int) ≤ 10 := by omega
        have Hset := Lib.hid (ctH_set l n t hlt Hn.out)
        have Hfl := Lib.hid (ctH_length l n t ht)
        have HT0 := Lib.hid (Tab.start ho (by rw [ctH_length l n t ht]; exact hlt) (hnil t (Nat.le_refl _) hlt))
        have Hnil := Lib.hid hnil
        have Hb := Lib.hid hb
        obtain ⟨b', off, rfl, hbB, hc⟩ := H.out (by rw [Hn.out]; omega)
        clear ho hb hc hnil
        go_wp2
        go_loopw [6] (fun i wr => ∃ (d : Nat) (rs' : List Value), t + d ≤ n ∧ i = .int .i64 ((t : Int) + 1 + (d : Int)) ∧ Tab wr w.heap.size w0.heap.size w.heap.size n t rs' (ctH l n t) (rowC l t d) ∧ (∀ j, j ≠ t → rvOf rs' j = rvOf rs j) ∧ Below w.heap.size w wr ∧ w0.heap.size ≤ wr.heap.size) (fun i _ => n + 1 - (intOf i).toNat)
        case atStart => exact ⟨0, rs, by omega, by simp, HT0.out, fun _ _ => rfl, Hb.out, Nat.le_refl _⟩
        case round =>
          clear HT0 Hb
          obtain ⟨d, rs', hd, rfl, hT, hoth, hb, hsz0⟩ := hrel
          have hsz2 := hb.size
          by_cases hlt2 : t + d < n
          · have d0 : (0 : Int) ≤ (d : Int) := by omega
            have d1 : (t : Int) + 1 + (d : Int) ≤ (n : Int) := by omega
            have d2 : (t : Int) ≤ (t : Int) + 1 + (d : Int) := by omega
            have d3 : (0 : Int) ≤ (t : Int) + 1 + (d : Int) := by omega
            have d4 : (t : Int) + 1 + (d : Int) ≤ (c : Int) := by omega
            have d5 : ((t : Int) + 1 + (d : Int)).toNat = t + 1 + d := by omega
            have d7 : d ≤ 1000000 := by omega
            have d9 : ¬ t + 1 + d = t := by omega
            have Hsg := Lib.hid (((H.out.below (hb.mono hB))).part t (d + 1))
            have Hseg : Hid (((l.drop t).take (d + 1)).length = t + 1 + d - t) := Lib.hid (by rw [List.length_take, List.length_drop, Hn.out]; omega)
            have Hst2 := Lib.hid (rowC_succ l t d)
            have Hl2 := Lib.hid (rowC_length l t d)
            have Hsm2 := Lib.hid ((Hsm.out.drop t).take (d + 1))
            have e10 : t + 1 + d - t ≤ 10 := by omega
            have hcell := hT.cell
            have hrow := hT.2.2.2.2.2
            obtain ⟨A2, c2, hv⟩ := own_form hrow
            rw [Hl2.out] at hv
            rw [hv] at hcell
            have hgl : w.heap.size < wr.heap.size := World.block_lt_of_cell? wr _ hcell
            have HT := Lib.hid hT
            have Hv := Lib.hid hv
            have Hb := Lib.hid hb
            have Hoth := Lib.hid hoth
            clear hT hb hoth hrow hv
            have Hl3 : Hid ((rowC l t d ++ [ctv (-1) ((l.drop t).take (d + 1))]).length = d + 1) := Lib.hid (by rw [← Hst2.out, rowC_length])
            generalize hx : ctv (-1) ((l.drop t).take (d + 1)) = x at *
            have hBw : ∀ z, Below wr.heap.size wr ((wr.drewN (1 + z)).alloc (.cells #[.int .i64 x] 3)) := fun z => (below_drewN (Below.refl _ _) _).alloc (by simp) _
            have HOwn : Hid (∀ z, ((wr.drewN (1 + z)).alloc (.cells #[.int .i64 x] 3)).ownsRow w0.heap.size 3 1 (.slice A2 d c2) d (ics (rowC l t d))) := Lib.hid fun z => by
              have := own_kept HT.out.2.2.2.2.2 (hBw z)
              rwa [Hv.out, Hl2.out] at this
            have HSl : Hid (∀ z, SlI ((wr.drewN (1 + z)).alloc (.cells #[.int .i64 x] 3)) (wr.heap.size + 1) (some ⟨wr.heap.size, 0, none⟩) [x]) := Lib.hid fun z => SlI.cell1 (World.cell?_alloc_new (wr.drewN (1 + z)) _ _ 0) (by omega)
            have HBs : Hid (∀ z, w0.heap.size ≤ ((wr.drewN (1 + z)).alloc (.cells #[.int .i64 x] 3)).heap.size) := Lib.hid fun z => Nat.le_trans hsz0 (hBw z).size
            have HNext : Hid (∀ z A7 c7 w7, w7.ownsRow w0.heap.size 3 1 (.slice A7 (d + 1) c7) (d + 1) (ics (rowC l t d ++ [x])) → ((wr.drewN (1 + z)).alloc (.cells #[.int .i64 x] 3)).grownBy w7 (Value.slice A2 d c2).ownBlock →
                (w7.cell? ⟨w.heap.size, t, none⟩ = some (.slice A2 d c2) ∧ w7.frozen? ⟨w.heap.size, t, none⟩ = false) ∧ Tab (w7.setCell ⟨w.heap.size, t, none⟩ (.slice A7 (d + 1) c7)) w.heap.size w0.heap.size w.heap.size n t (rs'.set t (.slice A7 (d + 1) c7)) (ctH l n t) (rowC l t (d + 1)) ∧
                  Below w.heap.size w (w7.setCell ⟨w.heap.size, t, none⟩ (.slice A7 (d + 1) c7)) ∧ w0.heap.size ≤ (w7.setCell ⟨w.heap.size, t, none⟩ (.slice A7 (d + 1) c7)).heap.size) := Lib.hid fun z A7 c7 w7 o7 g7 => by
              have h1 := Tab.next (r := .slice A7 (d + 1) c7) (R' := rowC l t (d + 1)) HT.out (hBw z) (by rw [Hv.out]; exact g7) (by rw [Hst2.out, Hl3.out]; exact o7)
              obtain ⟨h2, h3, h4⟩ := h1
              rw [Hv.out] at h2
              have b1 := below_kept Hb.out (Nat.le_refl _) (hBw z)
              have b2 := below_grown b1 g7 (Nat.le_refl _) (fun k hk => by
                have := ((HOwn.out z).lt k hk).1
                omega)
              have b3 := below_grown b2 h4 (Nat.le_refl _) (fun k hk => by injection hk with hk; omega)
              exact ⟨h2, h3, b3, Nat.le_trans (Nat.le_trans (HBs.out z) g7.size) h4.size⟩
            have hcA : ∀ z, ((wr.drewN (1 + z)).alloc (.cells #[.int .i64 x] 3)).cell? ⟨w.heap.size, t, none⟩ = some (.slice A2 d c2) := fun z => ((hBw z).cell (p := ⟨w.heap.size, t, none⟩) hgl).trans hcell
            have Hx := Lib.hid hx
            have htl : t < rs'.length := by rw [HT.out.1]; exact HT.out.2.1
            have Htl := Lib.hid htl
            clear hBw hx htl
            go_wp2
            go_region_law (first
              | (refine step_cont _ rfl (.tmp 36) rfl (some ⟨b', off + t, none⟩) (t + 1 + d - t) (t + 1 + d - t) B ((l.drop t).take (d + 1)) (by simp [Act.eval, Act.put]) Hseg.out e10 (Nat.le_refl _) ?_ Hsm2.out ?_
                 · exact Hsg.out
                 intro z
                 rw [Hx.out])
              | (refine step_appendNI ((wr.drewN (1 + z)).alloc (.cells #[.int .i64 x] 3)) rfl (.tmp 31) (.tmp 38) rfl w0.heap.size (.slice A2 d c2) d (rowC l t d) Hl2.out (by simp [Act.eval, Act.put]) (HOwn.out z) (some ⟨wr.heap.size, 0, none⟩) 1 1 [x] (wr.heap.size + 1) (d + 1) rfl (by simp [Act.eval, Act.put]) rfl (HSl.out z) d7 (by decide) (HBs.out z) ?_
                 intro A7 c7 w7 o7 g7
                 obtain ⟨⟨hc7, hf7⟩, hT7, hb7, hs7⟩ := HNext.out z A7 c7 w7 o7 g7
                 have HT7 := Lib.hid hT7
                 have Hb7 := Lib.hid hb7
                 have Hs7 := Lib.hid hs7
                 clear hT7 hb7 hs7 o7 g7))
            all_goals
              go_wp2
              go_roundw
              case rel => exact ⟨d + 1, _, by omega, by congr 1 <;> omega, HT7.out, fun j hj => by rw [rv_set Htl.out, if_neg hj]; exact Hoth.out j hj, Hb7.out, Hs7.out⟩
              case measure => (first | (simp [intOf]; done) | (simp [intOf]; omega))
          · have hdn : d = n - t := by omega
            have d1 : ¬ (t : Int) + 1 + (d : Int) ≤ (n : Int) := by omega
            have hO := hT.finish hsz
            rw [hdn, Hset.out] at hO
            have HO := Lib.hid hO
            have Hb := Lib.hid hb
            have Hoth := Lib.hid hoth
            clear hT hb hoth hO hdn
            go_wp2
            go_roundw
            case rel => exact ⟨t + 1, rs', by omega, by go_num, HO.out, fun j h1 h2 => by rw [Hoth.out j (by omega)]; exact Hnil.out j (by omega) h2, Hb.out⟩
            case measure => simp [intOf]; omega
      · obtain rfl : t = n := by omega
        rw [ctH_all] at ho
        have HE := Lib.hid (retC_yes (w := w) Hg.out Hn.out ho hb)
        clear ho hb hnil
        go_wp2
        go_ret2
        exact HE.out

theorem WContinuantTable.walk (w : World) (A : Option Addr) (c : Nat) (l : List Int) (h : SlI w w.heap.size A l)
    (hj : l.length ≤ c ∧ c ≤ maxLen ∧ ∀ x ∈ l, (Lit.int .i64 x).wf = true) :
    Calls Try.prog 6 #[.slice A l.length c] w fun e w' => e = .returned (.bool true) ∧ Below w.heap.size w w' :=
  WContinuantTable.core w A c l h hj.1 hj.2.1 (ctL l) (good l) (Nat.le_trans (ctL_length l) (by omega)) (fun j hj => Nat.le_trans (ctL_row l j hj) (by omega)) (ctL_pre l)
    (Lib.hid fun A c w h hl hlc => spec_ContinuantTable A c _ l w h (Nat.le_refl _) hl hlc)
    (Lib.hid fun A c w h hl hlc => impl_ContinuantTable A c _ l w h (Nat.le_refl _) hl hlc)
end Go.Proofs.Ytkekjcfhkecggab
