/- The model's cuPieces: from a corner always to the farthest one that it is joined with. -/
import Derived.Test.YtlnnnjnboknoeaaCusS
import Derived.Test.YtlnnnjnboknoeaaCugS
import Derived.Test.YtlnnnjnboknoeaaFliS
import Derived.Test.YtlnnnjnboknoeaaApp
namespace Go.Proofs.Ytlnnnjnboknoeaa
set_option linter.unusedVariables false
open Go.RowKit

theorem infoBo : (Try.prog.info? 4).map (fun i => (i.zero, i.size, i.bytes)) = some (some (.bool false), 1, 1) := by kernel_rfl
theorem jo_dec {n : Nat} {l : List (Int × Int)} {x y : Int} : decide (Jd (n : Int) l x y) = joB n l x y := by
  refine bool_ext ?_
  rw [decide_eq_true_eq, joB_iff]
  rfl
/-- the model's rows in the making -/
def mdA (n : Nat) (l : List (Int × Int)) (a b : Nat) : List (List Int) := (bsA n l a ++ bsR n l a b).map (pc n l)
theorem mdA_start (n : Nat) (l : List (Int × Int)) : mdA n l 0 0 = [] := rfl
theorem mdA_zero (n : Nat) (l : List (Int × Int)) (a : Nat) : mdA n l a 0 = (bsA n l a).map (pc n l) := by unfold mdA bsR; simp
theorem mdA_row (n : Nat) (l : List (Int × Int)) (a : Nat) : mdA n l a (a + 1) = (bsA n l a).map (pc n l) := by unfold mdA; rw [bsR_start, List.append_nil]
theorem mdA_end (n : Nat) (l : List (Int × Int)) (a : Nat) : mdA n l a n = (bsA n l (a + 1)).map (pc n l) := by unfold mdA; rw [bsA_succ]
theorem mdA_yes {n : Nat} {l : List (Int × Int)} {a b : Nat} (h : okJ n l a b = true) : mdA n l a (b + 1) = mdA n l a b ++ [pc n l ((a : Int), (b : Int))] := by unfold mdA; rw [bsR_yes h, ← List.append_assoc, List.map_append]; rfl
theorem mdA_no {n : Nat} {l : List (Int × Int)} {a b : Nat} (h : okJ n l a b = false) : mdA n l a (b + 1) = mdA n l a b := by unfold mdA; rw [bsR_no h]
theorem mdA_len (n : Nat) (l : List (Int × Int)) (a b : Nat) : (mdA n l a b).length ≤ a * n + b := by
  unfold mdA bsA bsR
  rw [List.length_map, List.length_append, List.length_map]
  have h1 : ((List.range b).filter (okJ n l a)).length ≤ b := by
    have := List.length_filter_le (okJ n l a) (List.range b)
    simpa using this
  have h2 : ∀ a, ((List.range a).flatMap fun a' => ((List.range n).filter (okJ n l a')).map fun (b' : Nat) => ((a' : Int), (b' : Int))).length ≤ a * n := by
    intro a
    induction a with
    | zero => simp
    | succ a ih =>
      rw [List.range_succ, List.flatMap_append, List.length_append, Nat.succ_mul]
      have h3 : ((List.range n).filter (okJ n l a)).length ≤ n := by
        have := List.length_filter_le (okJ n l a) (List.range n)
        simpa using this
      simp only [List.flatMap_cons, List.flatMap_nil, List.append_nil, List.length_map]
      omega
  have := h2 a
  omega
theorem okJ_base {n : Nat} {l : List (Int × Int)} {a b : Nat} (hn : Nc n l) (n3 : 3 ≤ n) (ha : a < n) (hb : b < n) (h : okJ n l a b = true) : ((a : Int), (b : Int)) ∈ basesC n l := by
  rw [← mem_bsA hn n3]
  unfold bsA bsR
  simp only [List.mem_flatMap, List.mem_map, List.mem_filter, List.mem_range]
  exact ⟨a, ha, b, ⟨hb, h⟩, rfl⟩

/-- the marks of what has been seen: from q on nothing -/
def Sn (w : World) (base gs N q : Nat) : Prop := ∃ vs, w.ownsRow base 4 1 (.slice (some ⟨gs, 0, none⟩) N N) N vs ∧ ∀ j, q ≤ j → j < N → vs[j]? = some (.bool false)
theorem Sn.kept {w w' : World} {base gs N q : Nat} (h : Sn w base gs N q) (hb : Below w.heap.size w w') : Sn w' base gs N q := by
  obtain ⟨vs, h1, h2⟩ := h
  exact ⟨vs, own_kept h1 hb, h2⟩
theorem Sn.next {w : World} {base gs N q q' : Nat} (h : Sn w base gs N q) (hq : q ≤ q') : Sn w base gs N q' := by
  obtain ⟨vs, h1, h2⟩ := h
  exact ⟨vs, h1, fun j hj hj2 => h2 j (by omega) hj2⟩
theorem Sn.cell {w : World} {base gs N q : Nat} (h : Sn w base gs N q) (hq : q < N) : w.cell? ⟨gs, q, none⟩ = some (.bool false) ∧ w.frozen? ⟨gs, q, none⟩ = false := by
  obtain ⟨vs, h1, h2⟩ := h
  exact ⟨(h1.cellAt q (by omega)).trans (h2 q (Nat.le_refl _) hq), h1.frozenAt q⟩
theorem Sn.set {w : World} {base gs N q : Nat} (h : Sn w base gs N q) (v : Value) : Sn (w.setCell ⟨gs, q, none⟩ v) base gs N (q + 1) ∧ w.grownBy (w.setCell ⟨gs, q, none⟩ v) (some gs) := by
  obtain ⟨vs, h1, h2⟩ := h
  obtain ⟨h3, h4⟩ := h1.stored q v
  refine ⟨⟨_, h3, fun j hj hj2 => ?_⟩, h4⟩
  rw [List.getElem?_set_ne (by omega)]
  exact h2 j (by omega) hj2

set_option maxRecDepth 100000 in
set_option maxHeartbeats 6400000 in
theorem spec_cuPieces (n : Nat) (A : Option Addr) (c B m : Nat) (l : List (Int × Int)) (w : World) (n3 : 3 ≤ n) (n12 : n ≤ 12) (hl : l.length = m) (hm : m ≤ 9) (hnc : Nc n l) (h : SlD w B A l) (hB : B ≤ w.heap.size) :
    Calls Try.prog 53 #[.int .i64 n, .slice A m c] w (GivSS w w.heap.size (pcL n l)) := by
  have H := Lib.hid h
  have HN := Lib.hid hnc
  have Hl := Lib.hid hl
  obtain ⟨N2, hN2⟩ : ∃ N2, N2 = n * n := ⟨_, rfl⟩
  have hN3 : N2 ≤ 144 := by rw [hN2]; exact Nat.mul_le_mul n12 n12
  have hNi : (n : Int) * (n : Int) = (N2 : Int) := by rw [hN2, Int.natCast_mul]
  have HN2 := Lib.hid hN2
  obtain ⟨i0, hi, hz0, hz1, hz2⟩ := info_parts infoBo
  have hbytes : i0.bytes * N2 ≤ 281474976710656 := by rw [hz2]; omega
  have hmax : N2 ≤ maxLen := by unfold maxLen; omega
  clear h hnc hl hN2
  go_enter Try.func53, Try.ntmps53
  go_wp2_with (at_make; refine wpList_make_full _ rfl _ _ _ rfl w.heap.size 4 i0 (.bool false) 1 Try.underlying86 hi hz0 hz1 _ _ _ _ N2 rfl rfl rfl rfl hbytes hmax (Nat.le_refl _) ?_; intro w1 hown1 hgrow1)
  have hb1 : Below w.heap.size w w1 := (Below.refl _ _).grown hgrow1 (Nat.le_refl _) (by simp)
  have e1 : (madeCells (Value.bool false).cells (N2 * 1)).toList = List.replicate N2 (.bool false) := by
    rw [Nat.mul_one]
    show (madeCells #[Value.bool false] N2).toList = _
    rw [toList_madeCells_one]
  rw [e1] at hown1
  have hs1 : Sn w1 w.heap.size w.heap.size N2 0 := ⟨_, hown1, fun j _ hj => by simp [hj]⟩
  have hz1' : w.heap.size < w1.heap.size := (hown1.lt w.heap.size rfl).2
  clear e1 hgrow1 hown1 hbytes hmax hi hz0 hz1 hz2
  go_wp2
  go_loopw [5, 7, 8, 9, 10, 11, 12] (fun S av _ _ _ _ _ wr => ∃ (a : Nat) (A2 : Option Addr) (c2 : Nat) (rs : List Value), a ≤ n ∧ av = .int .i64 a ∧ S = .slice A2 (mdA n l a 0).length c2 ∧ OwnSS wr (w.heap.size + 1) A2 c2 rs (mdA n l a 0) ∧ Sn wr w.heap.size w.heap.size N2 (a * n) ∧ Below w.heap.size w wr) (fun _ av _ _ _ _ _ _ => n - (intOf av).toNat)
  case atStart => exact ⟨0, none, 0, [], Nat.zero_le _, rfl, rfl, OwnSS.nil_, by rw [Nat.zero_mul]; exact hs1, hb1⟩
  case round =>
    clear hs1 hb1
    obtain ⟨a, A2, c2, rs, ha, rfl, rfl, ho, hs, hb⟩ := hrel
    by_cases hlt : a < n
    · obtain ⟨an, han⟩ : ∃ an, an = a * n := ⟨_, rfl⟩
      have hani : (a : Int) * (n : Int) = (an : Int) := by rw [han, Int.natCast_mul]
      have hanb : an + n ≤ N2 := by rw [han, HN2.out, ← Nat.succ_mul]; exact Nat.mul_le_mul_right n hlt
      have i1 : (a : Int) < (n : Int) := by omega
      rw [mdA_zero, ← mdA_row n l a] at ho ⊢
      rw [← han] at hs
      have Han := Lib.hid han
      clear han
      go_wp2
      go_loopw [5, 8, 9, 10, 11, 12] (fun S bv _ _ _ _ wr => ∃ (b : Nat) (A2 : Option Addr) (c2 : Nat) (rs : List Value), a < b ∧ b ≤ n ∧ bv = .int .i64 b ∧ S = .slice A2 (mdA n l a b).length c2 ∧ OwnSS wr (w.heap.size + 1) A2 c2 rs (mdA n l a b) ∧ Sn wr w.heap.size w.heap.size N2 (an + b) ∧ Below w.heap.size w wr) (fun _ bv _ _ _ _ _ => n - (intOf bv).toNat)
      case atStart => exact ⟨a + 1, A2, c2, rs, Nat.lt_succ_self _, hlt, by go_num, rfl, ho, hs.next (by omega), hb⟩
      case round =>
        clear ho hs hb
        obtain ⟨b, A2, c2, rs, hab, hbn, rfl, rfl, ho, hs, hb⟩ := hrel
        by_cases hlb : b < n
        · have b1 : (b : Int) < (n : Int) := by omega
          have b2 : (a : Int) < (b : Int) := by omega
          have HJ := Lib.hid (spec_poJoined (n : Int) A m c B l a b (joB n l a b) wr (H.out.below (hb.mono hB)) Hl.out (Nat.le_trans hB hb.size) (by omega) ⟨by omega, by omega⟩ ⟨by omega, by omega⟩ ⟨by omega, by omega⟩ jo_dec)
          have Ho := Lib.hid ho
          have Hs := Lib.hid hs
          have Hb := Lib.hid hb
          clear ho hs hb
          cases hok : okJ n l a b
          · have hno := mdA_no hok
            have Hno := Lib.hid hno
            clear hno
            cases hj : joB n l a b
            · rw [hj] at HJ
              clear hok hj
              go_wp2_with fail
              refine HJ.out.mono ?_
              rintro e w3 ⟨rfl, hb3⟩
              have o3 := Lib.hid (Ho.out.kept hb3)
              have s3 := Lib.hid (Hs.out.kept hb3)
              have b3 := Lib.hid (below_kept Hb.out (Nat.le_refl _) hb3)
              clear hb3
              go_wp2
              go_roundw
              case rel => exact ⟨b + 1, A2, c2, rs, by omega, by omega, by go_num, by rw [Hno.out], by rw [Hno.out]; exact o3.out, s3.out.next (by omega), b3.out⟩
              case measure => simp [intOf]; omega
            · have hb1 : b = a + 1 := by
                unfold okJ at hok
                rw [hj] at hok
                simp at hok
                exact hok hab
              rw [hj] at HJ
              have t1 : ((b : Int) - (a : Int) == 1) = true := by simp; omega
              clear hok hj hb1
              go_wp2_with fail
              refine HJ.out.mono ?_
              rintro e w3 ⟨rfl, hb3⟩
              have o3 := Lib.hid (Ho.out.kept hb3)
              have s3 := Lib.hid (Hs.out.kept hb3)
              have b3 := Lib.hid (below_kept Hb.out (Nat.le_refl _) hb3)
              clear hb3
              go_wp2
              go_roundw
              case rel => exact ⟨b + 1, A2, c2, rs, by omega, by omega, by go_num, by rw [Hno.out], by rw [Hno.out]; exact o3.out, s3.out.next (by omega), b3.out⟩
              case measure => simp [intOf]; omega
          · have hbase := okJ_base HN.out n3 hlt hlb hok
            have hj : joB n l a b = true := by unfold okJ at hok; simp at hok; exact hok.1.2
            have hb1 : b ≠ a + 1 := by unfold okJ at hok; simp at hok; exact hok.2
            have Hnad : Hid (¬ (b : Int) = (a : Int) + 1) := Lib.hid (by omega)
            rw [hj] at HJ
            have t1 : ((b : Int) - (a : Int) == 1) = false := by simp; omega
            have t2 : an + b < N2 := by omega
            have t3 : (an : Int) + (b : Int) < (N2 : Int) := by omega
            have t4 : ((an : Int) + (b : Int)).toNat = an + b := by omega
            have hyes := mdA_yes hok
            have Hyes := Lib.hid hyes
            have Hbase := Lib.hid hbase
            clear hok hj hyes hbase
            go_wp2_with fail
            refine HJ.out.mono ?_
            rintro e w3 ⟨rfl, hb3⟩
            have o3 := Lib.hid (Ho.out.kept hb3)
            have s3 := Lib.hid (Hs.out.kept hb3)
            have b3 := Lib.hid (below_kept Hb.out (Nat.le_refl _) hb3)
            obtain ⟨y0, y1⟩ := s3.out.cell t2
            clear hb3 HJ Ho Hs Hb
            go_wp2
            obtain ⟨hsn, hgs⟩ := s3.out.set (.bool true)
            have o5 := o3.out.far hgs (fun k hk => by have h1 : w.heap.size = k := Option.some.inj hk; omega)
            have b5 := below_grown b3.out hgs (Nat.le_refl _) (fun k hk => by have h1 : w.heap.size = k := Option.some.inj hk; omega)
            have HBW : Hid (B ≤ (w3.setCell ⟨w.heap.size, an + b, none⟩ (.bool true)).heap.size) := Lib.hid (Nat.le_trans hB b5.size)
            have Hw1s : Hid (w.heap.size + 1 ≤ (w3.setCell ⟨w.heap.size, an + b, none⟩ (.bool true)).heap.size) := Lib.hid (by
              obtain ⟨vs, h1, _⟩ := hsn
              exact (h1.lt w.heap.size rfl).2)
            have O5 := Lib.hid o5
            have S5 := Lib.hid hsn
            have B5 := Lib.hid b5
            clear o5 hsn b5 hgs y0 y1
            have e5 : (w3.setCell ⟨w.heap.size, an + b, none⟩ (.bool true)).heap.size = w3.heap.size := by simp [World.setCell]
            generalize w3.setCell ⟨w.heap.size, an + b, none⟩ (.bool true) = W5 at *
            have hPs := pc_sort n l ((a : Int), (b : Int))
            have hPf := pc_first HN.out Hbase.out n3
            have hPl : ∀ x ∈ pc n l ((a : Int), (b : Int)), (a : Int) ≤ x ∧ x ≤ (b : Int) := fun x hx => pc_le hx
            have hPlen := pc_len (n := n) l ((a : Int), (b : Int))
            have hwk := fun (i : Nat) (hi : i < (pc n l ((a : Int), (b : Int))).length) (nx : Int) => pc_walk (nx := nx) HN.out Hbase.out n3 hi
            generalize pc n l ((a : Int), (b : Int)) = P at *
            dsimp only at hPf hwk
            obtain ⟨hP0, hPa⟩ := first_at hPs hPf.1 (fun x hx => (hPl x hx).1)
            have own6 : (W5.alloc (.cells #[.int .i64 a] 3)).ownsRow W5.heap.size 3 1 (.slice (some ⟨w3.heap.size, 0, none⟩) 1 1) 1 (ics (P.take 1)) := by
              have h1 := World.ownsRow_lit (e := 3) (size := 1) (base := W5.heap.size) W5 #[.int .i64 a] 1 (Nat.le_refl _) (by decide) rfl
              have e : P.take 1 = [(a : Int)] := by rw [List.take_succ_eq_append_getElem hP0, hPa]; simp
              rw [e, ← e5]
              exact h1
            have hb6 := (Below.refl W5.heap.size W5).alloc (Nat.le_refl _) (.cells #[.int .i64 a] 3)
            have HP := Lib.hid hPl
            have HPs := Lib.hid hPs
            have HPb := Lib.hid hPf.2
            have Hwk := Lib.hid hwk
            have hPa' : P.getD 0 0 = (a : Int) := by rw [← hPa]; simp [hP0]
            clear hPs hPf hPl hwk hPa Hbase
            go_loopw [9, 10, 11, 12] (fun pv av _ _ wr => ∃ (i : Nat) (Ap : Option Addr) (cp : Nat), i < P.length ∧ av = .int .i64 (P.getD i 0) ∧ pv = .slice Ap (i + 1) cp ∧ wr.ownsRow W5.heap.size 3 1 (.slice Ap (i + 1) cp) (i + 1) (ics (P.take (i + 1))) ∧ Below W5.heap.size W5 wr) (fun pv _ _ _ _ => 100 - (match pv with | .slice _ k _ => k | _ => 0))
            case atStart => exact ⟨0, _, _, hP0, by rw [hPa'], rfl, own6, hb6⟩
            case round =>
              clear own6 hb6 hPa' hP0
              obtain ⟨W7, hW7⟩ : ∃ W7, W7 = wr := ⟨_, rfl⟩
              subst hW7
              obtain ⟨i, Ap, cp, hiP, rfl, rfl, hop, hbp⟩ := hrel
              have hxe : P.getD i 0 = P[i] := by simp [hiP]
              have hxm := HP.out _ (List.getElem_mem hiP)
              rw [← hxe] at hxm
              obtain ⟨x, hx⟩ : ∃ x, P.getD i 0 = x := ⟨_, rfl⟩
              have Hx := Lib.hid hx
              rw [hx] at hxm hxe ⊢
              obtain ⟨hxa, hxb⟩ := hxm
              have Hop := Lib.hid hop
              have HTk : Hid ((P.take (i + 1)).length = i + 1) := Lib.hid (by simp; omega)
              have Hbp := Lib.hid hbp
              have Hxe := Lib.hid hxe
              clear hx hop hbp hxe
              by_cases hxq : x = (b : Int)
              · have u1 : (x != (b : Int)) = false := by simpa using hxq
                have hPn : P.length = i + 1 := last_at HPs.out hiP (fun y hy => by rw [← Hxe.out, hxq]; exact (HP.out y hy).2)
                have hPt : P.take (i + 1) = P := by rw [← hPn, List.take_length]
                rw [hPt] at Hop
                have HPn := Lib.hid hPn
                have own8 := ((O5.out.kept Hbp.out).2.1).alloc (.cells #[.slice Ap (i + 1) cp] 35)
                have z8 : (w.heap.size + 1) ≤ (W7.alloc (.cells #[.slice Ap (i + 1) cp] 35)).heap.size := by
                  have h1 := ((O5.out.kept Hbp.out).2.1.lt)
                  have h2 := Hw1s.out
                  have h3 := Hbp.out.size
                  simp
                  omega
                have hml := mdA_len n l a b
                have hlen : (mdA n l a b).length ≤ 1000000 := by rw [← Han.out] at hml; omega
                clear hPt hPn hml
                go_wp2_with (at_builtin; refine append1SS _ rfl _ _ rfl (w.heap.size + 1) (.slice A2 (mdA n l a b).length c2) (mdA n l a b).length rs rfl own8 W7.heap.size (.slice Ap (i + 1) cp) rfl rfl ?c1 hlen z8 ?_; (case c1 => simp [go_sem]); intro A9 c9 w9 own9 hg9)
                have hO : OwnSS w9 (w.heap.size + 1) A9 c9 (rs ++ [.slice Ap (i + 1) cp]) (mdA n l a b ++ [P]) := by
                  refine OwnSS.app (b := W5.heap.size) (w2 := W7) (A := A2) (c := c2) (o := .cells #[.slice Ap (i + 1) cp] 35) (O5.out.kept Hbp.out) (fun j hj k hk => O5.out.blk j hj k hk) ?_ (fun k hk => (Hop.out.lt k hk).1) own9 hg9
                  rw [HPn.out]
                  exact Hop.out.mono Hw1s.out
                rw [← Hyes.out] at hO
                have hb9 := below_grown ((below_kept B5.out (Nat.le_refl _) Hbp.out).alloc (Nat.le_trans B5.out.size Hbp.out.size) (.cells #[.slice Ap (i + 1) cp] 35)) hg9 (Nat.le_refl _) (fun k hk => by
                  have := (own8.lt k hk).1
                  omega)
                have hsn : Sn w9 w.heap.size w.heap.size N2 (an + b + 1) := by
                  obtain ⟨vs, h1, h2⟩ := (S5.out.kept Hbp.out)
                  refine ⟨vs, own_far (h1.alloc _) hg9 (fun k hk e => ?_), h2⟩
                  have h3 : w.heap.size = k := Option.some.inj hk
                  have := (own8.lt k e.symm).1
                  omega
                have HO := Lib.hid hO
                have HB9 := Lib.hid hb9
                have HSn := Lib.hid hsn
                have Hle : Hid ((mdA n l a (b + 1)).length = (mdA n l a b).length + 1) := Lib.hid (by rw [Hyes.out]; simp)
                clear hO hb9 hsn own9 hg9 own8
                go_wp2
                go_roundw
                case rel => exact ⟨b + 1, A9, c9, _, by omega, by omega, by go_num, by rw [Hle.out], HO.out, HSn.out.next (by omega), HB9.out⟩
                case measure => simp [intOf]; omega
              · have u1 : (x != (b : Int)) = true := by simpa using hxq
                have hxlt : x < (b : Int) := by omega
                go_wp2
                go_loopw [11, 12] (fun nv cv wq => ∃ cc : Int, x ≤ cc ∧ cc ≤ (b : Int) ∧ cv = .int .i64 cc ∧ nv = .int .i64 (x + 1) ∧ (∀ c', cc < c' → c' ≤ (b : Int) → joB n l x c' = true → x = (a : Int) ∧ c' = (b : Int)) ∧ Below W7.heap.size W7 wq) (fun _ cv _ => (intOf cv).toNat)
                case atStart => exact ⟨(b : Int), by omega, Int.le_refl _, rfl, rfl, fun c' h1 h2 => by omega, Below.refl _ _⟩
                case round =>
                  obtain ⟨cc, hc1, hc2, rfl, rfl, hmax, hbq⟩ := hrel
                  have Hmax := Lib.hid hmax
                  have Hbq := Lib.hid hbq
                  clear hmax hbq
                  by_cases hxc : x < cc
                  · have HJ := Lib.hid (spec_poJoined (n : Int) A m c B l x cc (joB n l x cc) wr ((H.out.below (B5.out.mono hB)).below ((below_kept Hbp.out (Nat.le_refl _) Hbq.out).mono HBW.out)) Hl.out (Nat.le_trans HBW.out (below_kept Hbp.out (Nat.le_refl _) Hbq.out).size) (by omega) ⟨by omega, by omega⟩ ⟨by omega, by omega⟩ ⟨by omega, by omega⟩ jo_dec)
                    cases hjy : joB n l x cc
                    · rw [hjy] at HJ
                      have hm2 : ∀ c', cc - 1 < c' → c' ≤ (b : Int) → joB n l x c' = true → x = (a : Int) ∧ c' = (b : Int) := fun c' h1 h2 h3 => by
                        by_cases e : c' = cc
                        · rw [e, hjy] at h3; cases h3
                        · exact Hmax.out c' (by omega) h2 h3
                      have Hm2 := Lib.hid hm2
                      clear hm2 hjy
                      go_wp2_with fail
                      refine HJ.out.mono ?_
                      rintro e w8 ⟨rfl, hb8⟩
                      have e8 := Lib.hid (below_kept Hbq.out (Nat.le_refl _) hb8)
                      clear hb8
                      go_wp2
                      go_roundw
                      case rel => exact ⟨cc - 1, by omega, by omega, by go_num, rfl, Hm2.out, e8.out⟩
                      case measure => simp [intOf]; omega
                    · rw [hjy] at HJ
                      by_cases hne : x = (a : Int) ∧ cc = (b : Int)
                      · have hm2 : ∀ c', cc - 1 < c' → c' ≤ (b : Int) → joB n l x c' = true → x = (a : Int) ∧ c' = (b : Int) := fun c' h1 h2 h3 => by
                          by_cases e : c' = cc
                          · rw [e]; exact hne
                          · exact Hmax.out c' (by omega) h2 h3
                        have Hm2 := Lib.hid hm2
                        have v1 : (x != (a : Int)) = false := by simpa using hne.1
                        have v2 : (cc != (b : Int)) = false := by simpa using hne.2
                        clear hm2 hjy hne
                        go_wp2_with fail
                        refine HJ.out.mono ?_
                        rintro e w8 ⟨rfl, hb8⟩
                        have e8 := Lib.hid (below_kept Hbq.out (Nat.le_refl _) hb8)
                        clear hb8
                        go_wp2
                        go_roundw
                        case rel => exact ⟨cc - 1, by omega, by omega, by go_num, rfl, Hm2.out, e8.out⟩
                        case measure => simp [intOf]; omega
                      · have hw2 := Hwk.out i hiP cc (by rw [← Hxe.out]; exact hxc) hc2 (by rw [← Hxe.out]; exact hjy) (by rw [← Hxe.out]; exact hne) (by rw [← Hxe.out]; exact Hmax.out)
                        have Hw2 := Lib.hid hw2
                        have Hne := Lib.hid hne
                        clear hw2 hne hjy
                        by_cases v0 : x = (a : Int)
                        · have v1 : (x != (a : Int)) = false := by simpa using v0
                          have v2 : (cc != (b : Int)) = true := by
                            have := Hne.out
                            simp
                            omega
                          clear v0
                          go_wp2_with fail
                          refine HJ.out.mono ?_
                          rintro e w8 ⟨rfl, hb8⟩
                          have o8 := own_kept Hop.out (below_kept Hbq.out (Nat.le_refl _) hb8)
                          have e8 := below_kept Hbp.out (Nat.le_refl _) (below_kept Hbq.out (Nat.le_refl _) hb8)
                          have s8 := e8.size
                          have O8 := Lib.hid o8
                          have E8 := Lib.hid e8
                          clear o8 e8 hb8
                          have own8 := O8.out.alloc (.cells #[.int .i64 cc] 3)
                          have z8 : W5.heap.size ≤ (w8.alloc (.cells #[.int .i64 cc] 3)).heap.size := Nat.le_trans s8 (by simp)
                          go_wp2_with (at_builtin; refine append1In _ rfl _ _ rfl W5.heap.size (.slice Ap (i + 1) cp) (i + 1) (P.take (i + 1)) HTk.out rfl own8 w8.heap.size cc rfl ?c1 (by omega) z8 ?_; (case c1 => simp [go_sem]); intro A9 c9 w9 own9 hg9)
                          have hfin : Below W5.heap.size W5 w9 := below_grown (E8.out.alloc s8 (.cells #[.int .i64 cc] 3)) hg9 (Nat.le_refl _) (fun j hj => (O8.out.lt j hj).1)
                          obtain ⟨hi2, hP2⟩ := Hw2.out
                          rw [show P.take (i + 1) ++ [cc] = P.take (i + 1 + 1) by rw [List.take_succ_eq_append_getElem hi2, hP2]] at own9
                          have Hf := Lib.hid hfin
                          have Hg := Lib.hid own9
                          have Hx2 : Hid (P.getD (i + 1) 0 = cc) := Lib.hid (by rw [← hP2]; simp [hi2])
                          clear hfin own9 hg9 own8 hP2
                          go_wp2
                          go_roundw
                          case rel => exact ⟨i + 1, A9, c9, hi2, by rw [Hx2.out], rfl, Hg.out, Hf.out⟩
                          case measure => (show 100 - (i + 1 + 1) < 100 - (i + 1)); omega
                        · have v1 : (x != (a : Int)) = true := by simpa using v0
                          clear v0
                          go_wp2_with fail
                          refine HJ.out.mono ?_
                          rintro e w8 ⟨rfl, hb8⟩
                          have o8 := own_kept Hop.out (below_kept Hbq.out (Nat.le_refl _) hb8)
                          have e8 := below_kept Hbp.out (Nat.le_refl _) (below_kept Hbq.out (Nat.le_refl _) hb8)
                          have s8 := e8.size
                          have O8 := Lib.hid o8
                          have E8 := Lib.hid e8
                          clear o8 e8 hb8
                          have own8 := O8.out.alloc (.cells #[.int .i64 cc] 3)
                          have z8 : W5.heap.size ≤ (w8.alloc (.cells #[.int .i64 cc] 3)).heap.size := Nat.le_trans s8 (by simp)
                          go_wp2_with (at_builtin; refine append1In _ rfl _ _ rfl W5.heap.size (.slice Ap (i + 1) cp) (i + 1) (P.take (i + 1)) HTk.out rfl own8 w8.heap.size cc rfl ?c1 (by omega) z8 ?_; (case c1 => simp [go_sem]); intro A9 c9 w9 own9 hg9)
                          have hfin : Below W5.heap.size W5 w9 := below_grown (E8.out.alloc s8 (.cells #[.int .i64 cc] 3)) hg9 (Nat.le_refl _) (fun j hj => (O8.out.lt j hj).1)
                          obtain ⟨hi2, hP2⟩ := Hw2.out
                          rw [show P.take (i + 1) ++ [cc] = P.take (i + 1 + 1) by rw [List.take_succ_eq_append_getElem hi2, hP2]] at own9
                          have Hf := Lib.hid hfin
                          have Hg := Lib.hid own9
                          have Hx2 : Hid (P.getD (i + 1) 0 = cc) := Lib.hid (by rw [← hP2]; simp [hi2])
                          clear hfin own9 hg9 own8 hP2
                          go_wp2
                          go_roundw
                          case rel => exact ⟨i + 1, A9, c9, hi2, by rw [Hx2.out], rfl, Hg.out, Hf.out⟩
                          case measure => (show 100 - (i + 1 + 1) < 100 - (i + 1)); omega
                  · exfalso
                    have hcx : cc = x := by omega
                    have hj2 := Hmax.out (x + 1) (by omega) (by omega) (joB_iff.2 (.inl rfl))
                    exact Hnad.out (by omega)
        · obtain rfl : b = n := by omega
          rw [mdA_end, ← mdA_zero] at ho ⊢
          have hq : an + b = (a + 1) * b := by rw [Han.out, Nat.succ_mul]
          rw [hq] at hs
          clear hq
          go_wp2
          go_roundw
          case rel => exact ⟨a + 1, A2, c2, rs, hlt, by go_num, rfl, ho, hs, hb⟩
          case measure => simp [intOf]; omega
    · obtain rfl : a = n := by omega
      rw [mdA_zero, show (bsA a l a).map (pc a l) = mdlP a l from rfl] at ho ⊢
      have hlen := mdA_len a l a 0
      rw [mdA_zero, show (bsA a l a).map (pc a l) = mdlP a l from rfl, ← HN2.out] at hlen
      have Hlo : Hid (w.heap.size + 1 ≤ wr.heap.size) := Lib.hid (by
        obtain ⟨vs, h1, _⟩ := hs
        exact (h1.lt w.heap.size rfl).2)
      have HC := Lib.hid (spec_cuSorted A2 c2 (w.heap.size + 1) wr.heap.size (mdlP a l).length (mdlP a l) wr rfl ho.sln (Nat.le_refl _) Hlo.out (by omega) (fun j hj => by
        have hm : rowOf (mdlP a l) j ∈ mdlP a l := by
          have e : rowOf (mdlP a l) j = (mdlP a l)[j] := by simp [rowOf, hj]
          rw [e]; exact List.getElem_mem _
        unfold mdlP at hm
        obtain ⟨q, _, hq⟩ := List.mem_map.1 hm
        have h1 : (rowOf ((bsA a l a).map (pc a l)) j).length ≤ a := by rw [← hq]; exact pc_len l q
        have h2 : (rowOf (mdlP a l) j).length ≤ a := h1
        omega))
      have Hb := Lib.hid hb
      clear ho hs hb hlen
      go_wp2_with fail
      refine HC.out.mono ?_
      rintro e w9 ⟨A9, c9, rfl, hs9, hb9⟩
      have HE : Hid (GivSS w w.heap.size (pcL a l) (.returned (.slice A9 (pcL a l).length c9)) w9) := Lib.hid ⟨A9, c9, rfl, hs9.mono (Nat.le_succ _), below_kept Hb.out (Nat.le_refl _) hb9⟩
      have Hle : Hid ((PlS (mdlP a l) (mdlP a l).length).length = (pcL a l).length) := Lib.hid rfl
      rw [Hle.out]
      clear hs9 hb9
      go_wp2
      go_ret
      exact HE.out
end Go.Proofs.Ytlnnnjnboknoeaa
