import Derived.Test.YthlelcmifolnfaaGreatDoorHRowETo
import Derived.Test.YthlelcmifolnfaaGreatDoorEnRTo
import Derived.Test.YthlelcmifolnfaaGreatDoorCmA
import Derived.Deep.RegionHeld3
import Derived.BigQuiet
import Derived.WalkSmall
import Derived.Test.YthlelcmifolnfaaGreatDoorLd
import Derived.Test.YthlelcmifolnfaaGreatDoorOnceTo
import Derived.Shelf.Abstract
import Derived.Deep.QuietTactic
import Derived.Test.YthlelcmifolnfaaGreatDoorCmR
import Derived.Laws.IdiomCopy
import Derived.AtR
namespace Go.Proofs.YthlelcmifolnfaaGreatDoor
open Go.RowKit
attribute [local go_sem ↓] ldS_exec ldS_run stS_exec stS_run oc_int oc_bool oc_string oc_slice oc_pointer
def Kin8 (w w' : World) : Prop := ∀ (k : Nat) (c : Array Value) (t : TypeId) (fr : Nat × Nat), w.heap[k]? = some (.cells c t fr) → t ≠ 5 → w'.heap[k]? = some (.cells c t fr)
theorem Kin8.refl (w : World) : Kin8 w w := fun _ _ _ _ h _ => h
theorem Kin8.trans {a b c : World} (h : Kin8 a b) (k : Kin8 b c) : Kin8 a c := fun i x t fr hi ht => k i x t fr (h i x t fr hi ht) ht
theorem Kin8.below {w w' : World} (h : Below w.heap.size w w') : Kin8 w w' := fun k _ _ _ hk _ => (h.block k (Array.getElem?_eq_some_iff.1 hk).1).trans hk
theorem Kin8.grown {w w' : World} {B : Nat} {v : Value} {xs : List Int} (h : Owns w B 5 v xs) (hg : w.grownBy w' v.ownBlock) : Kin8 w w' := by
  intro k c t fr hk ht
  refine (hg.block k (Array.getElem?_eq_some_iff.1 hk).1 ?_).trans hk
  rcases h.2 with ⟨rfl, _⟩ | ⟨g, cap, cur, rfl, _, hgb, _⟩
  · intro e; cases e
  · intro e
    have e' : g = k := (Option.some.inj e).symm
    subst e'
    rw [hgb] at hk
    have := Option.some.inj hk
    simp only [Obj.cells.injEq] at this
    exact ht this.2.1.symm

structure Put10 (w0 w : World) (v : Value) (xs : List Int) : Prop where
  own : Owns w w0.heap.size 5 v xs
  bel : Below w0.heap.size w0 w
theorem Put10.nil (w : World) : Put10 w w (.slice none 0 0) [] := ⟨Owns.nil _ _ _, Below.refl _ _⟩
theorem Put10.more {w0 w w' : World} {v : Value} {xs : List Int} (h : Put10 w0 w v xs) (hb : Below w.heap.size w w') : Put10 w0 w' v xs := ⟨h.own.below hb (Nat.le_refl _), h.bel.trans (hb.mono h.bel.size)⟩
def Puts (w0 w : World) (ys : List Int) (e : Ending) (w' : World) : Prop := ∃ v', e = .returned v' ∧ Put10 w0 w' v' ys ∧ Kin8 w w'

set_option maxRecDepth 100000 in
set_option maxHeartbeats 1500000 in
theorem putNumber_any (w0 w : World) (v : Value) (xs : List Int) (n : Int) (h : Put10 w0 w v xs) (hl : xs.length ≤ 1073741824) :
    Calls Tryz.prog 225 #[v, .int .i64 n] w (Puts w0 w (xs ++ zigB n)) := by
  obtain ⟨i0, hi, hz0, hz1, hz2⟩ := info_parts info8c
  have k1 := zig_any n w
  have hzb := zig_bd n
  have k2 := put_any (.slice none 0 0) [] (zigS n) w (Has.nil w) (by simp) hzb.1 hzb.2
  have HZ : Hid (zigB n = numB (zigS n)) := rfl
  have hnl := numB_le (zigS n)
  generalize zigS n = z at *
  go_enter Tryz.func225, Tryz.ntmps225
  go_wp2_with fail
  refine same_mono k1 ?_
  go_wp2_with fail
  refine k2.mono ?_
  rintro e w1 ⟨v1, rfl, ho1, hb1⟩
  have h1 := h.more hb1
  have hsz := h1.bel.size
  rw [List.nil_append] at ho1
  clear k1 k2 h
  go_wp2_with (at_builtin; refine ap_slice_g _ rfl _ _ 25 rfl w0.heap.size 5 i0 Tryz.underlying25 hi hz0 hz1 hz2 _ xs (numB z) rfl (by exact ho1.has) (by exact h1.own) (by omega) (by omega) (by exact hsz) ?_; intro v2 w2 ho2 hg2)
  go_ret
  refine ⟨_, rfl, ⟨by rw [HZ.out]; exact ho2, h1.bel.trans (below_grown h1.own hsz hg2)⟩, (Kin8.below hb1).trans (Kin8.grown h1.own hg2)⟩

theorem numsB_snoc {l : List Int} {j : Nat} (h : j < l.length) : numsB (l.take (j + 1)) = numsB (l.take j) ++ zigB (l.getD j 0) := by
  rw [List.take_succ_eq_append_getElem h, numsB_append, List.getD_eq_getElem?_getD, List.getElem?_eq_getElem h]
  simp [numsB]
theorem numsB_take (l : List Int) (j : Nat) : (numsB (l.take j)).length ≤ 9 * l.length := by
  have h1 := numsB_len (l.take j)
  have h2 : (l.take j).length ≤ l.length := by rw [List.length_take]; omega
  omega

set_option maxRecDepth 100000 in
set_option maxHeartbeats 1500000 in
theorem putNumbers_any (w0 w : World) (v : Value) (xs ns : List Int) (R n : Nat) (h : Put10 w0 w v xs) (hR : w.heap[R]? = some (.cells (ns.map (Value.int .i64)).toArray 3 (0, 0))) (hn : ns.length = n) (hn2 : n ≤ 100) (hl : xs.length ≤ 1073740000) :
    Calls Tryz.prog 176 #[v, .slice (some ⟨R, 0, none⟩) n n] w (Puts w0 w (xs ++ numsB ns)) := by
  have HN : Hid (ns.length = n) := hn
  have HR : Hid (w.heap[R]? = some (.cells (ns.map (Value.int .i64)).toArray 3 (0, 0))) := hR
  clear hR hn
  go_enter Tryz.func176, Tryz.ntmps176
  go_wp2
  go_loopw [0, 9] (fun s0 s9 wr => ∃ (j : Nat) (u : Value), u = s0 ∧ j ≤ n ∧ s9 = .int .i64 (j : Nat) ∧ Put10 w0 wr u (xs ++ numsB (ns.take j)) ∧ Kin8 w wr) (fun _ s9 _ => n - (intOf s9).toNat)
  case atStart => exact ⟨0, _, rfl, Nat.zero_le _, rfl, by rw [List.take_zero, show numsB [] = [] from rfl, List.append_nil]; exact h, Kin8.refl _⟩
  case round =>
    clear h
    obtain ⟨j, u, hu, hj, rfl, hP, hk⟩ := hrel
    subst hu
    by_cases hlt : j < n
    · have hR := hk _ _ _ _ HR.out (by decide)
      have hb := box_lt hR
      have hc := box_cell hR j
      have HS : Hid (numsB (ns.take (j + 1)) = numsB (ns.take j) ++ zigB (ns.getD j 0)) := numsB_snoc (by rw [HN.out]; exact hlt)
      rw [show (ns.map (Value.int .i64)).toArray[j]? = some (.int .i64 (ns.getD j 0)) by simp [List.getD_eq_getElem?_getD, List.getElem?_eq_getElem (show j < ns.length by rw [HN.out]; exact hlt)]] at hc
      have hlen := numsB_take ns j
      rw [HN.out] at hlen
      generalize ns.getD j 0 = x at *
      have kp := putNumber_any w0 wr u _ x hP (by rw [List.length_append]; omega)
      clear hR hP
      go_wp2_with fail
      refine kp.mono ?_
      rintro e w3 ⟨v3, rfl, hP3, hk3⟩
      clear kp
      go_wp2
      go_roundw
      case rel => exact ⟨j + 1, _, rfl, by omega, by go_num, by rw [HS.out, ← List.append_assoc]; exact hP3, hk.trans hk3⟩
      case measure => simp only [intOf]; omega
    · rw [List.take_of_length_le (by rw [HN.out]; omega)] at hP
      go_wp2
      go_ret
      exact ⟨_, rfl, hP, hk⟩

theorem strB_of {ys : List Int} (h : IsB ys) : strB (strOfNums ys) = ys := by
  unfold strB
  rw [strOfNums_data, List.map_map]
  conv => rhs; rw [← List.map_id ys]
  refine List.map_congr_left fun a ha => ?_
  have := h a ha
  simp
  omega
theorem textB_of {ys : List Int} (h : IsB ys) : textB (strOfNums ys) = bytB ys := by
  unfold textB bytB
  rw [strB_of h, ← strB_length, strB_of h]
theorem size_of {ys : List Int} (h : IsB ys) : (strOfNums ys).size = ys.length := by rw [← strB_length, strB_of h]

set_option maxRecDepth 100000 in
set_option maxHeartbeats 1500000 in
theorem putTextE_any (w0 w : World) (v t : Value) (xs ys : List Int) (h : Put10 w0 w v xs) (ht : Has w t ys) (hB : IsB ys) (hl : xs.length ≤ 1073741824) (hly : ys.length ≤ 1073741824) :
    Calls Tryz.prog 178 #[v, t] w (Puts w0 w (xs ++ bytB ys)) := by
  obtain ⟨i0, hi, hz0, hz1, hz2⟩ := info_parts info8c
  have c1 := ht.conv (P := Tryz.prog) 25 5 9 Tryz.underlying25 Tryz.underlying5 Tryz.underlying9
  have k2 := putText_any (.slice none 0 0) [] (strOfNums ys) w (Has.nil w) (by simp) (by rw [size_of hB]; exact hly)
  rw [textB_of hB, List.nil_append] at k2
  have hbl : (bytB ys).length ≤ 1073741900 := by
    unfold bytB
    have := numB_le (ys.length : Int)
    rw [List.length_append]
    omega
  generalize bytB ys = zs at *
  generalize strOfNums ys = s at *
  obtain ⟨p, c, rfl, -, -, -⟩ := id ht
  clear ht hB
  go_enter Tryz.func178, Tryz.ntmps178
  go_wp2_with fail
  refine k2.mono ?_
  rintro e w1 ⟨v1, rfl, ho1, hb1⟩
  have h1 := h.more hb1
  have hsz := h1.bel.size
  clear k2 h
  go_wp2_with (at_builtin; refine ap_slice_g _ rfl _ _ 25 rfl w0.heap.size 5 i0 Tryz.underlying25 hi hz0 hz1 hz2 _ xs zs rfl (by exact ho1.has) (by exact h1.own) (by omega) (by omega) (by exact hsz) ?_; intro v2 w2 ho2 hg2)
  go_ret
  exact ⟨_, rfl, ⟨ho2, h1.bel.trans (below_grown h1.own hsz hg2)⟩, (Kin8.below hb1).trans (Kin8.grown h1.own hg2)⟩

set_option maxRecDepth 100000 in
set_option maxHeartbeats 1500000 in
theorem putListI_any (w0 w : World) (v : Value) (xs ns : List Int) (p : Option Addr) (n c : Nat) (h : Put10 w0 w v xs) (hN : HasI w0 (.slice p n c) ns) (hn2 : n ≤ 1000) (hl : xs.length ≤ 1073700000) :
    Calls Tryz.prog 226 #[v, .slice p n c, .func (.func 225) #[] #[]] w (Puts w0 w (xs ++ listB ns)) := by
  obtain ⟨i0, hi, hz0, hz1, hz2⟩ := info_parts info8c
  have HN : Hid (ns.length = n) := hN.len.1
  have HX : Hid (HasI w0 (.slice p n c) ns) := hN
  have HL : Hid (listB ns = numB (n : Int) ++ numsB ns) := by rw [Hid, listB, HN.out]
  clear hN
  have k2 := put_any (.slice none 0 0) [] (n : Int) w (Has.nil w) (by simp) (by omega) (by omega)
  have hnl := numB_le (n : Int)
  go_enter Tryz.func226, Tryz.ntmps226
  go_wp2_with fail
  refine k2.mono ?_
  rintro e w1 ⟨v1, rfl, ho1, hb1⟩
  have h1 := h.more hb1
  have hsz := h1.bel.size
  rw [List.nil_append] at ho1
  clear k2 h
  go_wp2_with (at_builtin; refine ap_slice_g _ rfl _ _ 25 rfl w0.heap.size 5 i0 Tryz.underlying25 hi hz0 hz1 hz2 _ xs (numB (n : Int)) rfl (by exact ho1.has) (by exact h1.own) (by omega) (by omega) (by exact hsz) ?_; intro v2 w2 ho2 hg2)
  have hP2 : Put10 w0 w2 v2 (xs ++ numB (n : Int)) := ⟨ho2, h1.bel.trans (below_grown h1.own hsz hg2)⟩
  have hk2 : Kin8 w w2 := (Kin8.below hb1).trans (Kin8.grown h1.own hg2)
  clear h1 hsz ho1 hb1 ho2 hg2
  go_loopw [0, 17] (fun s0 s17 wr => ∃ (j : Nat) (u : Value), u = s0 ∧ j ≤ n ∧ s17 = .int .i64 (j : Nat) ∧ Put10 w0 wr u (xs ++ numB (n : Int) ++ numsB (ns.take j)) ∧ Kin8 w wr) (fun _ s17 _ => n - (intOf s17).toNat)
  case atStart => exact ⟨0, _, rfl, Nat.zero_le _, rfl, by rw [List.take_zero, show numsB [] = [] from rfl, List.append_nil]; exact hP2, hk2⟩
  case round =>
    clear hP2 hk2
    obtain ⟨j, u, hu, hj, rfl, hP, hk⟩ := hrel
    subst hu
    by_cases hlt : j < n
    · obtain ⟨b, o, rfl, hb0, hc0⟩ := HX.out.at hlt
      have hc := (hP.bel.cell (p := ⟨b, o + j, none⟩) hb0).trans hc0
      have hb : b < wr.heap.size := Nat.lt_of_lt_of_le hb0 hP.bel.size
      have HS : Hid (numsB (ns.take (j + 1)) = numsB (ns.take j) ++ zigB (ns.getD j 0)) := numsB_snoc (by rw [HN.out]; exact hlt)
      have hlen := numsB_take ns j
      rw [HN.out] at hlen
      generalize ns.getD j 0 = x at *
      have kp := putNumber_any w0 wr u _ x hP (by rw [List.length_append, List.length_append]; omega)
      clear hP hc0 hb0
      go_wp2_with fail
      refine kp.mono ?_
      rintro e w3 ⟨v3, rfl, hP3, hk3⟩
      clear kp
      go_wp2
      go_roundw
      case rel => exact ⟨j + 1, _, rfl, by omega, by go_num, by rw [HS.out, ← List.append_assoc]; exact hP3, hk.trans hk3⟩
      case measure => simp only [intOf]; omega
    · rw [List.take_of_length_le (by rw [HN.out]; omega)] at hP
      go_wp2
      go_ret
      exact ⟨_, rfl, by rw [HL.out, ← List.append_assoc]; exact hP, hk⟩
def FewF (c : Conf10) : Prop := c.vs.length ≤ 1000 ∧ c.ls.length ≤ 1000
theorem listB_len (l : List Int) : (listB l).length ≤ 9 + 9 * l.length := by
  unfold listB
  have := numB_le (l.length : Int)
  have := numsB_len l
  rw [List.length_append]
  omega
theorem confB_len {c : Conf10} (h : FewF c) : (confB c).length ≤ 18018 := by
  unfold confB
  have := listB_len c.vs
  have := listB_len c.ls
  obtain ⟨h1, h2⟩ := h
  rw [List.length_append]
  omega
theorem bytB_len (xs : List Int) : (bytB xs).length ≤ 9 + xs.length := by
  unfold bytB
  have := numB_le (xs.length : Int)
  rw [List.length_append]
  omega
set_option maxRecDepth 100000 in
set_option maxHeartbeats 1500000 in
theorem putConf_any (w0 w : World) (v : Value) (xs : List Int) (x : ConfV) (h : Put10 w0 w v xs) (hF : FitsF w0 x) (hf : FewF x.f) (hl : xs.length ≤ 1073600000) :
    Calls Tryz.prog 177 #[v, .agg x.arr] w (Puts w0 w (xs ++ confB x.f)) := by
  have hb1 : Below w.heap.size w (w.alloc (.cells x.arr 24)) := (Below.refl _ _).alloc (Nat.le_refl _) _
  have hbox : ConfAt (w.alloc (.cells x.arr 24)) w.heap.size x := heap_alloc_new w _
  have hn1 := hF.u.len.1
  have hn2 := hF.v.len.1
  obtain ⟨f1, f2⟩ := hf
  have HC : Hid (confB x.f = listB x.f.vs ++ listB x.f.ls) := rfl
  have k1 := putListI_any w0 (w.alloc (.cells x.arr 24)) v xs x.f.vs _ _ _ (h.more hb1) hF.u (by omega) (by omega)
  have hll := listB_len x.f.vs
  have k2 := fun W u (hP : Put10 w0 W u (xs ++ listB x.f.vs)) => putListI_any w0 W u (xs ++ listB x.f.vs) x.f.ls _ _ _ hP hF.v (by omega) (by rw [List.length_append]; omega)
  have K2 : Hid _ := k2
  generalize confB x.f = bs at *
  generalize listB x.f.vs = l1 at *
  generalize listB x.f.ls = l2 at *
  obtain ⟨⟨p, n, c⟩, ⟨q, m, d⟩, f⟩ := x
  unfold ConfV.arr at *
  dsimp only at *
  clear hF hn1 hn2 h k2
  go_enter Tryz.func177, Tryz.ntmps177
  go_wp2_with fail
  generalize w.alloc (.cells #[.slice p n c, .slice q m d] 24) = W1 at *
  refine k1.mono ?_
  rintro e w2 ⟨v2, rfl, hP2, hk2⟩
  have hbox2 : ConfAt w2 w.heap.size ⟨⟨p, n, c⟩, ⟨q, m, d⟩, f⟩ := hk2 _ _ _ _ hbox (by decide)
  obtain ⟨c0, c1⟩ := hbox2.cells
  dsimp only at c0 c1
  have hlt := box_lt hbox2
  have k3 := K2.out w2 v2 hP2
  clear k1 hbox
  go_wp2_with fail
  refine k3.mono ?_
  rintro e w3 ⟨v3, rfl, hP3, hk3⟩
  go_wp2
  go_ret
  exact ⟨_, rfl, by rw [HC.out, ← List.append_assoc]; exact hP3, ((Kin8.below hb1).trans hk2).trans hk3⟩

def isNode10 (n : Int) : Bool := decide (1 ≤ n ∧ n ≤ 9)
def okAt10 (l : List Int) (i : Nat) : Bool := decide (1 ≤ l.getD i 0) && decide (l.getD i 0 ≤ 9) && (decide (i = 0) || decide (l.getD (i - 1) 0 < l.getD i 0))
theorem rises10_is (l : List Int) : rises10 l = (List.range l.length).all (okAt10 l) := rfl
theorem rises10_no {l : List Int} {i : Nat} (hi : i < l.length) (h : okAt10 l i = false) : rises10 l = false := by
  cases hr : rises10 l with
  | false => rfl
  | true =>
    rw [rises10_is, List.all_eq_true] at hr
    have := hr i (List.mem_range.2 hi)
    rw [h] at this
    cases this
theorem rises10_yes {l : List Int} (h : ∀ i, i < l.length → okAt10 l i = true) : rises10 l = true := by
  rw [rises10_is, List.all_eq_true]
  exact fun i hi => h i (List.mem_range.1 hi)
theorem okAt10_iff (l : List Int) (i : Nat) : okAt10 l i = true ↔ (1 ≤ l.getD i 0 ∧ l.getD i 0 ≤ 9) ∧ (i = 0 ∨ l.getD (i - 1) 0 < l.getD i 0) := by
  unfold okAt10
  simp only [Bool.and_eq_true, Bool.or_eq_true, decide_eq_true_eq]
def last10 (l : List Int) (j : Nat) : Int := if j = 0 then 0 else l.getD (j - 1) 0
theorem okAt10_last (l : List Int) (j : Nat) : okAt10 l j = (isNode10 (l.getD j 0) && !decide (l.getD j 0 ≤ last10 l j)) := by
  rw [Bool.eq_iff_iff, okAt10_iff]
  unfold isNode10 last10
  simp only [Bool.and_eq_true, decide_eq_true_eq, Bool.not_eq_true', decide_eq_false_iff_not]
  by_cases h : j = 0
  · rw [if_pos h]; omega
  · rw [if_neg h]; omega
set_option maxRecDepth 100000 in
theorem isNode_any (n : Int) (w : World) : Calls Tryz.prog 172 #[.int .i64 n] w fun e w' => e = .returned (.bool (isNode10 n)) ∧ w' = w := by
  by_cases h0 : 1 ≤ n
  · have HK : Hid (isNode10 n = decide (n ≤ 9)) := by
      show _ = _
      unfold isNode10
      rw [decide_eq_decide]
      omega
    go_enter Tryz.func172, Tryz.ntmps172
    go_wp2
    go_ret
    rw [HK.out]
    exact ⟨rfl, rfl⟩
  · have HK : Hid (isNode10 n = false) := by
      show _ = _
      unfold isNode10
      exact decide_eq_false (by omega)
    go_enter Tryz.func172, Tryz.ntmps172
    go_wp2
    go_ret
    rw [HK.out]
    exact ⟨rfl, rfl⟩

set_option maxRecDepth 100000 in
set_option maxHeartbeats 1500000 in
theorem rise_any (p : Option Addr) (n c : Nat) (xs : List Int) (w : World) (h : HasI w (.slice p n c) xs) (hl : xs.length ≤ 17592186044416) :
    Calls Tryz.prog 141 #[.slice p n c] w fun e w' => e = .returned (.bool (rises10 xs)) ∧ w' = w := by
  obtain ⟨hn, hc, -⟩ := h.len
  have HN : Hid (xs.length = n) := hn
  rw [hn] at hl
  have HX : Hid (HasI w (.slice p n c) xs) := h
  clear hn h
  go_enter Tryz.func141, Tryz.ntmps141
  go_wp2
  go_loopw [3, 8] (fun s3 s8 wr => ∃ j : Nat, j ≤ n ∧ s8 = .int .i64 (j : Nat) ∧ s3 = .int .i64 (last10 xs j) ∧ wr = w ∧ Hid (∀ i, i < j → okAt10 xs i = true)) (fun _ s8 _ => n - (intOf s8).toNat)
  case atStart => exact ⟨0, Nat.zero_le _, rfl, rfl, rfl, fun i hi => by omega⟩
  case round =>
    obtain ⟨j, hj, rfl, rfl, rfl, hok⟩ := hrel
    by_cases hlt : j < n
    · obtain ⟨b, o, rfl, hb, hcell⟩ := HX.out.at hlt
      have HO : Hid (okAt10 xs j = (isNode10 (xs.getD j 0) && !decide (xs.getD j 0 ≤ last10 xs j))) := okAt10_last xs j
      have HL : Hid (last10 xs (j + 1) = xs.getD j 0) := by rw [Hid, last10, if_neg (by omega)]; rfl
      generalize xs.getD j 0 = x at *
      generalize last10 xs j = y at *
      have hnode := isNode_any x wr
      generalize isNode10 x = bb at *
      cases bb with
      | false =>
        have HF : Hid (rises10 xs = false) := rises10_no (by rw [HN.out]; exact hlt) (by rw [HO.out]; rfl)
        go_wp2_with fail
        refine same_mono hnode ?_
        go_wp2
        go_ret
        rw [HF.out]
        exact ⟨rfl, rfl⟩
      | true =>
        by_cases hxy : x ≤ y
        · have HF : Hid (rises10 xs = false) := rises10_no (by rw [HN.out]; exact hlt) (by rw [HO.out, decide_eq_true hxy]; rfl)
          go_wp2_with fail
          refine same_mono hnode ?_
          go_wp2
          go_ret
          rw [HF.out]
          exact ⟨rfl, rfl⟩
        · have HT : Hid (okAt10 xs j = true) := by rw [Hid, HO.out, decide_eq_false hxy]; rfl
          go_wp2_with fail
          refine same_mono hnode ?_
          go_wp2
          go_roundw
          case rel =>
            refine ⟨j + 1, by omega, by go_num, by rw [HL.out], by trivial, fun i hi => ?_⟩
            by_cases e : i = j
            · rw [e]; exact HT.out
            · exact hok.out i (by omega)
          case measure => simp only [intOf]; omega
    · have HT : Hid (rises10 xs = true) := rises10_yes fun i hi => hok.out i (by rw [HN.out] at hi; omega)
      go_wp2
      go_ret
      rw [HT.out]
      exact ⟨rfl, rfl⟩

def hasI10 (l : List Int) (x : Int) : Bool := l.any fun a => decide (x = a)
theorem hasI10_no {l : List Int} {x : Int} (h : ∀ i, i < l.length → x ≠ l.getD i 0) : hasI10 l x = false := by
  unfold hasI10
  rw [List.any_eq_false]
  intro a ha
  obtain ⟨i, hi, rfl⟩ := List.getElem_of_mem ha
  have := h i hi
  rw [List.getD_eq_getElem?_getD, List.getElem?_eq_getElem hi] at this
  simpa using this
theorem hasI10_yes {l : List Int} {x : Int} {i : Nat} (hi : i < l.length) (h : x = l.getD i 0) : hasI10 l x = true := by
  unfold hasI10
  rw [List.any_eq_true]
  refine ⟨l.getD i 0, ?_, by simpa using h⟩
  rw [List.getD_eq_getElem?_getD, List.getElem?_eq_getElem hi]
  exact List.getElem_mem hi

set_option maxRecDepth 100000 in
set_option maxHeartbeats 1500000 in
theorem indexI_any (p : Option Addr) (n c : Nat) (xs : List Int) (x : Int) (w : World) (h : HasI w (.slice p n c) xs) (hl : xs.length ≤ 17592186044416) :
    Calls Tryz.prog 224 #[.slice p n c, .int .i64 x] w fun e w' => (∃ i : Int, e = .returned (.int .i64 i) ∧ decide (0 ≤ i) = hasI10 xs x) ∧ w' = w := by
  obtain ⟨hn, hc, -⟩ := h.len
  have HN : Hid (xs.length = n) := hn
  rw [hn] at hl
  have HX : Hid (HasI w (.slice p n c) xs) := h
  clear hn h
  go_enter Tryz.func224, Tryz.ntmps224
  go_wp2
  go_loopw [8] (fun s8 wr => ∃ j : Nat, j ≤ n ∧ s8 = .int .i64 (j : Nat) ∧ wr = w ∧ Hid (∀ i, i < j → x ≠ xs.getD i 0)) (fun s8 _ => n - (intOf s8).toNat)
  case atStart => exact ⟨0, Nat.zero_le _, rfl, rfl, fun i hi => by omega⟩
  case round =>
    obtain ⟨j, hj, rfl, rfl, hok⟩ := hrel
    by_cases hlt : j < n
    · obtain ⟨b, o, rfl, hb, hcell⟩ := HX.out.at hlt
      by_cases hxy : x = xs.getD j 0
      · have HF : Hid (hasI10 xs x = true) := hasI10_yes (by rw [HN.out]; exact hlt) hxy
        have he : (x == xs.getD j 0) = true := by simpa using hxy
        generalize xs.getD j 0 = y at *
        clear hxy
        go_wp2
        go_ret
        exact ⟨⟨_, rfl, by rw [HF.out]; simp⟩, rfl⟩
      · have HF : Hid (x ≠ xs.getD j 0) := hxy
        have he : (x == xs.getD j 0) = false := by simpa using hxy
        clear hxy
        have HS : Hid (∀ i, i < j + 1 → x ≠ xs.getD i 0) := fun i hi => by
          by_cases e : i = j
          · rw [e]; exact HF.out
          · exact hok.out i (by omega)
        clear hok HF
        generalize xs.getD j 0 = y at *
        go_wp2
        go_roundw
        case rel => exact ⟨j + 1, by omega, by go_num, by trivial, HS.out⟩
        case measure => simp only [intOf]; omega
    · have HF : Hid (hasI10 xs x = false) := hasI10_no fun i hi => hok.out i (by rw [HN.out] at hi; omega)
      go_wp2
      go_ret
      exact ⟨⟨_, rfl, by rw [HF.out]; rfl⟩, rfl⟩

set_option maxRecDepth 100000 in
set_option maxHeartbeats 1500000 in
theorem containsI_any (p : Option Addr) (n c : Nat) (xs : List Int) (x : Int) (w : World) (h : HasI w (.slice p n c) xs) (hl : xs.length ≤ 17592186044416) :
    Calls Tryz.prog 175 #[.slice p n c, .int .i64 x] w fun e w' => e = .returned (.bool (hasI10 xs x)) ∧ w' = w := by
  have hk := indexI_any p n c xs x w h hl
  generalize hasI10 xs x = r at *
  clear h hl
  go_enter Tryz.func175, Tryz.ntmps175
  go_wp2_with fail
  refine hk.mono ?_
  rintro e w' ⟨⟨i, rfl, hi⟩, rfl⟩
  have HI : Hid (decide (0 ≤ i) = r) := hi
  clear hk hi
  go_wp2
  go_ret
  rw [← HI.out]
  exact ⟨rfl, rfl⟩

set_option maxRecDepth 100000 in
set_option maxHeartbeats 1500000 in
theorem apart1_any (p : Option Addr) (n c b : Nat) (xs : List Int) (x : Int) (w : World) (h : HasI w (.slice p n c) xs) (hl : xs.length ≤ 17592186044416) (hb : w.cell? ⟨b, 0, none⟩ = some (.slice p n c)) (_hlt : b < w.heap.size) :
    Calls Tryz.prog 174 #[.int .i64 x, .pointer (some ⟨b, 0, none⟩)] w fun e w' => e = .returned (.bool (hasI10 xs x)) ∧ w' = w := by
  have hk := containsI_any p n c xs x w h hl
  generalize hasI10 xs x = r at *
  clear h hl
  go_enter Tryz.func174, Tryz.ntmps174
  go_wp2_with fail
  refine same_mono hk ?_
  go_wp2
  go_ret
  exact ⟨rfl, rfl⟩

set_option maxRecDepth 100000 in
set_option maxHeartbeats 1500000 in
theorem indexF_any (p q : Option Addr) (n c m d b : Nat) (xs ys : List Int) (w : World) (h : HasI w (.slice p n c) xs) (hl : xs.length ≤ 17592186044416) (h2 : HasI w (.slice q m d) ys) (hl2 : ys.length ≤ 17592186044416) (hb : w.cell? ⟨b, 0, none⟩ = some (.slice q m d)) (hblt : b < w.heap.size) :
    Calls Tryz.prog 223 #[.slice p n c, .func (.func 174) #[] #[.pointer (some ⟨b, 0, none⟩)]] w fun e w' => (∃ i : Int, e = .returned (.int .i64 i) ∧ decide (0 ≤ i) = xs.any fun x => hasI10 ys x) ∧ w' = w := by
  obtain ⟨hn, hc, -⟩ := h.len
  have HN : Hid (xs.length = n) := hn
  rw [hn] at hl
  have HX : Hid (HasI w (.slice p n c) xs) := h
  have HC : Hid (∀ x, Calls Tryz.prog 174 #[.int .i64 x, .pointer (some ⟨b, 0, none⟩)] w fun e w' => e = .returned (.bool (hasI10 ys x)) ∧ w' = w) := fun x => apart1_any q m d b ys x w h2 hl2 hb hblt
  clear hn h h2 hb hl2
  go_enter Tryz.func223, Tryz.ntmps223
  go_wp2
  go_loopw [8] (fun s8 wr => ∃ j : Nat, j ≤ n ∧ s8 = .int .i64 (j : Nat) ∧ wr = w ∧ Hid (∀ i, i < j → hasI10 ys (xs.getD i 0) = false)) (fun s8 _ => n - (intOf s8).toNat)
  case atStart => exact ⟨0, Nat.zero_le _, rfl, rfl, fun i hi => by omega⟩
  case round =>
    obtain ⟨j, hj, rfl, rfl, hok⟩ := hrel
    by_cases hlt : j < n
    · obtain ⟨b1, o1, rfl, hb1, hcell⟩ := HX.out.at hlt
      have hcall := HC.out (xs.getD j 0)
      cases hh : hasI10 ys (xs.getD j 0) with
      | true =>
        have HF : Hid ((xs.any fun x => hasI10 ys x) = true) := by
          rw [Hid, List.any_eq_true]
          refine ⟨xs.getD j 0, ?_, hh⟩
          rw [List.getD_eq_getElem?_getD, List.getElem?_eq_getElem (by rw [HN.out]; exact hlt)]
          exact List.getElem_mem _
        rw [hh] at hcall
        clear hh
        generalize xs.getD j 0 = y at *
        go_wp2_with fail
        refine same_mono hcall ?_
        go_wp2
        go_ret
        exact ⟨⟨_, rfl, by rw [HF.out]; simp⟩, rfl⟩
      | false =>
        have HS : Hid (∀ i, i < j + 1 → hasI10 ys (xs.getD i 0) = false) := fun i hi => by
          by_cases e : i = j
          · rw [e]; exact hh
          · exact hok.out i (by omega)
        rw [hh] at hcall
        clear hh hok
        generalize xs.getD j 0 = y at *
        go_wp2_with fail
        refine same_mono hcall ?_
        go_wp2
        go_roundw
        case rel => exact ⟨j + 1, by omega, by go_num, by trivial, HS.out⟩
        case measure => simp only [intOf]; omega
    · have HF : Hid ((xs.any fun x => hasI10 ys x) = false) := by
        rw [Hid, List.any_eq_false]
        intro a ha
        obtain ⟨i, hi, rfl⟩ := List.getElem_of_mem ha
        have := hok.out i (by rw [HN.out] at hi; omega)
        rw [List.getD_eq_getElem?_getD, List.getElem?_eq_getElem hi] at this
        simpa using this
      go_wp2
      go_ret
      exact ⟨⟨_, rfl, by rw [HF.out]; rfl⟩, rfl⟩

set_option maxRecDepth 100000 in
set_option maxHeartbeats 1500000 in
theorem containsF_any (p q : Option Addr) (n c m d b : Nat) (xs ys : List Int) (w : World) (h : HasI w (.slice p n c) xs) (hl : xs.length ≤ 17592186044416) (h2 : HasI w (.slice q m d) ys) (hl2 : ys.length ≤ 17592186044416) (hb : w.cell? ⟨b, 0, none⟩ = some (.slice q m d)) (hblt : b < w.heap.size) :
    Calls Tryz.prog 173 #[.slice p n c, .func (.func 174) #[] #[.pointer (some ⟨b, 0, none⟩)]] w fun e w' => e = .returned (.bool (xs.any fun x => hasI10 ys x)) ∧ w' = w := by
  have hk := indexF_any p q n c m d b xs ys w h hl h2 hl2 hb hblt
  generalize (xs.any fun x => hasI10 ys x) = r at *
  clear h hl h2 hl2 hb
  go_enter Tryz.func173, Tryz.ntmps173
  go_wp2_with fail
  refine hk.mono ?_
  rintro e w' ⟨⟨i, rfl, hi⟩, rfl⟩
  have HI : Hid (decide (0 ≤ i) = r) := hi
  clear hk hi
  go_wp2
  go_ret
  rw [← HI.out]
  exact ⟨rfl, rfl⟩

set_option maxRecDepth 100000 in
set_option maxHeartbeats 1500000 in
theorem apart_any (p q : Option Addr) (n c m d : Nat) (xs ys : List Int) (w : World) (h : HasI w (.slice p n c) xs) (hl : xs.length ≤ 17592186044416) (h2 : HasI w (.slice q m d) ys) (hl2 : ys.length ≤ 17592186044416) :
    Calls Tryz.prog 142 #[.slice p n c, .slice q m d] w fun e w' => e = .returned (.bool (!(xs.any fun x => hasI10 ys x))) ∧ Below w.heap.size w w' := by
  have hmf : ∀ (fn : Fn) (first cap : Array Value) (w : World), (Instr.makeFunc fn first cap).run Tryz.prog w = .ok (.func fn first cap) w := fun _ _ _ _ => rfl
  have hB : ∀ x : Obj, Below w.heap.size w (w.alloc x) := fun x => (Below.refl _ _).alloc (Nat.le_refl _) x
  have hB1 := hB (.cells #[.slice q m d] 22)
  have hbox := heap_alloc_new w (.cells #[.slice q m d] 22)
  have hk := containsF_any p q n c m d w.heap.size xs ys (w.alloc (.cells #[.slice q m d] 22)) (h.below hB1 (Nat.le_refl _)) hl (h2.below hB1 (Nat.le_refl _)) hl2 (box_cell hbox 0) (by simp)
  generalize (xs.any fun x => hasI10 ys x) = r at *
  clear h hl h2 hl2 hbox hB
  go_enter Tryz.func142, Tryz.ntmps142
  go_wp2_with fail
  refine same_mono hk ?_
  go_wp2
  go_ret
  exact ⟨rfl, hB1⟩

theorem goodF10_is (c : Conf10) : goodF10 c = (!c.vs.isEmpty && rises10 c.vs && rises10 c.ls && !(c.vs.any fun x => hasI10 c.ls x)) := by
  rw [Bool.eq_iff_iff]
  unfold goodF10 hasI10
  simp only [Bool.and_eq_true, Bool.not_eq_true', List.all_eq_true, List.any_eq_false, List.any_eq_true, decide_eq_false_iff_not, decide_eq_true_eq, not_exists, not_and]
  constructor
  · rintro ⟨⟨⟨h1, h2⟩, h3⟩, h4⟩
    exact ⟨⟨⟨h3, h1⟩, h2⟩, fun a ha b hb => h4 a ha b hb⟩
  · rintro ⟨⟨⟨h3, h1⟩, h2⟩, h4⟩
    exact ⟨⟨⟨h1, h2⟩, h3⟩, fun a ha b hb => h4 a ha b hb⟩
set_option maxRecDepth 100000 in
set_option maxHeartbeats 1500000 in
theorem goodConf_any (x : ConfV) (w : World) (h : FitsF w x) : Calls Tryz.prog 102 #[.agg x.arr] w fun e w' => e = .returned (.bool (goodF10 x.f)) ∧ Below w.heap.size w w' := by
  have HG : Hid (goodF10 x.f = (!x.f.vs.isEmpty && rises10 x.f.vs && rises10 x.f.ls && !(x.f.vs.any fun a => hasI10 x.f.ls a))) := goodF10_is x.f
  have hB1 : Below w.heap.size w (w.alloc (.cells x.arr 24)) := (Below.refl _ _).alloc (Nat.le_refl _) _
  have h1 := h.below hB1
  have k1 := rise_any _ _ _ _ _ h1.u h1.lu
  have k2 := rise_any _ _ _ _ _ h1.v h1.lv
  have k3 := apart_any _ _ _ _ _ _ _ _ _ h1.u h1.lu h1.v h1.lv
  have hn := h.u.len.1
  have HE : Hid (x.f.vs.isEmpty = decide (x.u.n = 0)) := by
    rw [Hid, ← hn]
    cases x.f.vs <;> simp
  have hzz : (w.alloc (.cells x.arr 24)).heap.size = w.heap.size + 1 := by simp
  obtain ⟨⟨p, n, c⟩, ⟨q, m, d⟩, f⟩ := x
  unfold ConfV.arr at *
  dsimp only at *
  generalize rises10 f.vs = r1 at *
  generalize rises10 f.ls = r2 at *
  generalize (f.vs.any fun a => hasI10 f.ls a) = r3 at *
  clear h h1 hn
  by_cases h0 : n = 0
  · have HF : Hid (goodF10 f = false) := by rw [Hid, HG.out, HE.out, decide_eq_true h0]; rfl
    subst h0
    clear HG HE
    go_enter Tryz.func102, Tryz.ntmps102
    go_wp2
    go_ret
    rw [HF.out]
    exact ⟨rfl, hB1⟩
  · have HF : Hid (goodF10 f = (r1 && r2 && !r3)) := by rw [Hid, HG.out, HE.out, decide_eq_false h0]; simp
    have hpos : (0 : Int) < (n : Int) := by omega
    clear HG HE
    cases r1 with
    | false =>
      go_enter Tryz.func102, Tryz.ntmps102
      go_wp2_with fail
      refine same_mono k1 ?_
      go_wp2
      go_ret
      rw [HF.out]
      exact ⟨rfl, hB1⟩
    | true =>
      cases r2 with
      | false =>
        go_enter Tryz.func102, Tryz.ntmps102
        go_wp2_with fail
        refine same_mono k1 ?_
        go_wp2_with fail
        refine same_mono k2 ?_
        go_wp2
        go_ret
        rw [HF.out]
        exact ⟨rfl, hB1⟩
      | true =>
        go_enter Tryz.func102, Tryz.ntmps102
        go_wp2_with fail
        refine same_mono k1 ?_
        go_wp2_with fail
        refine same_mono k2 ?_
        go_wp2_with fail
        refine k3.mono ?_
        rintro e w1 ⟨rfl, hb1⟩
        have hB2 := hB1.trans (hb1.mono hB1.size)
        go_wp2
        go_ret
        rw [HF.out]
        exact ⟨by simp, hB2⟩
end Go.Proofs.YthlelcmifolnfaaGreatDoor

namespace Go.Proofs.YthlelcmifolnfaaGreatDoor
open Go.RowKit Go.Shelf
attribute [local go_sem ↓] ldS_exec ldS_run stS_exec stS_run oc_int oc_bool oc_string oc_slice oc_pointer
theorem Has.len {w : World} {p : Option Addr} {n c : Nat} {xs : List Int} (h : Has w (.slice p n c) xs) : xs.length = n ∧ n ≤ c ∧ (p = none → c = 0) := by
  obtain ⟨q, d, hv, h1, h2, _⟩ := h
  simp only [Value.slice.injEq] at hv
  obtain ⟨rfl, rfl, rfl⟩ := hv
  exact ⟨rfl, h1, h2⟩

set_option maxRecDepth 10000 in
set_option maxHeartbeats 2000000 in
theorem ints10_any (u v : Value) (xs ys : List Int) (w : World) (hx : HasI w u xs) (hy : HasI w v ys) (lx : xs.length ≤ 17592186044416) (ly : ys.length ≤ 17592186044416) :
    Calls Tryz.prog 126 #[u, v] w fun e w' => e = .returned (.bool (decide (xs = ys))) ∧ Below w.heap.size w w' := by
  obtain ⟨p, c, rfl, hc, _, hcx⟩ := hx
  obtain ⟨q, d, rfl, hd, _, hcy⟩ := hy
  by_cases hl : xs.length = ys.length
  · rcases Nat.eq_zero_or_pos xs.length with h0 | h0
    · obtain rfl : xs = [] := List.eq_nil_of_length_eq_zero h0
      obtain rfl : ys = [] := List.eq_nil_of_length_eq_zero (by simpa using hl.symm)
      go_enter Tryz.func126, Tryz.ntmps126
      go_wp2
      go_loop [13] (fun t => t = .int .i64 0) (fun _ => 0)
      case atStart => rfl
      case round =>
        obtain rfl := hrel
        go_wp2
        go_ret
        exact ⟨rfl, Below.refl _ _⟩
    · obtain ⟨b, o, rfl, hbl, hcx⟩ := hcx h0
      obtain ⟨b', o', rfl, hbl', hcy⟩ := hcy (by omega)
      have hl' : ((xs.length : Int) == (ys.length : Int)) = true := by rw [hl]; simp
      go_enter Tryz.func126, Tryz.ntmps126
      go_wp2
      go_loopw [13] (fun t wr => ∃ j : Nat, j ≤ xs.length ∧ t = .int .i64 j ∧ Hid (∀ i, i < j → xs.getD i 0 = ys.getD i 0) ∧ Below w.heap.size w wr) (fun t _ => xs.length - (intOf t).toNat)
      case atStart => exact ⟨0, by omega, rfl, fun i hi => by omega, Below.refl _ _⟩
      case round =>
        obtain ⟨j, hj, rfl, hs, hb⟩ := hrel
        by_cases hlt : j < xs.length
        · have c1 : wr.cell? ⟨b, o + j, none⟩ = some (.int .i64 (xs.getD j 0)) := (hb.cell (p := ⟨b, o + j, none⟩) hbl).trans (hcx j hlt)
          have c2 : wr.cell? ⟨b', o' + j, none⟩ = some (.int .i64 (ys.getD j 0)) := (hb.cell (p := ⟨b', o' + j, none⟩) hbl').trans (hcy j (by omega))
          have hj1 : (j : Int) < (xs.length : Int) := by omega
          have hj2 : (j : Int) < (ys.length : Int) := by omega
          by_cases he : xs.getD j 0 = ys.getD j 0
          · have he' : (xs.getD j 0 == ys.getD j 0) = true := beq_iff_eq.2 he
            have hs' : Hid (∀ i, i < j + 1 → xs.getD i 0 = ys.getD i 0) := fun i hi => by
              by_cases e : i = j
              · rw [e]; exact he
              · exact hs.out i (by omega)
            clear hs he hcx hcy
            generalize xs.getD j 0 = x at *
            generalize ys.getD j 0 = y at *
            go_wp2
            go_quiet (fail)
            go_wp2
            go_roundw
            case rel => exact ⟨j + 1, by omega, by simp, hs', below_drewN hb _⟩
            case measure => simp only [intOf]; omega
          · have he' : (xs.getD j 0 == ys.getD j 0) = false := beq_eq_false_iff_ne.2 he
            have hd0 : Hid (decide (xs = ys) = false) := decide_eq_false fun e => he (by rw [e])
            clear hs he hcx hcy
            generalize xs.getD j 0 = x at *
            generalize ys.getD j 0 = y at *
            go_wp2
            go_quiet (fail)
            go_wp2
            go_ret
            exact ⟨by rw [hd0.out]; rfl, below_drewN hb _⟩
        · obtain rfl : j = xs.length := by omega
          have he : Hid (decide (xs = ys) = true) := decide_eq_true (List.ext_getElem hl fun i h1 h2 => by
            have := hs.out i h1
            simpa [List.getD_eq_getElem?_getD, List.getElem?_eq_getElem h1, List.getElem?_eq_getElem h2] using this)
          clear hs hcx hcy
          go_wp2
          go_ret
          exact ⟨by rw [he.out]; rfl, hb⟩
  · have hne : xs ≠ ys := fun e => hl (by rw [e])
    have hd0 : decide (xs = ys) = false := decide_eq_false hne
    have hl' : ((xs.length : Int) == (ys.length : Int)) = false := by
      rw [beq_eq_false_iff_ne]; omega
    clear hcx hcy
    rw [hd0]
    go_enter Tryz.func126, Tryz.ntmps126
    go_wp2
    go_ret
    exact ⟨rfl, Below.refl _ _⟩

set_option maxRecDepth 100000 in
set_option maxHeartbeats 1500000 in
theorem rsameConf_any (x y : ConfV) (w : World) (hx : FitsF w x) (hy : FitsF w y) : Calls Tryz.prog 61 #[.agg x.arr, .agg y.arr] w fun e w' => e = .returned (.bool (sameF10 x.f y.f)) ∧ Below w.heap.size w w' := by
  have hb1 : Below w.heap.size w (w.alloc (.cells x.arr 24)) := (Below.refl _ _).alloc (Nat.le_refl _) _
  have hbx : ConfAt (w.alloc (.cells x.arr 24)) w.heap.size x := heap_alloc_new w _
  have hz1 : (w.alloc (.cells x.arr 24)).heap.size = w.heap.size + 1 := by simp
  have hb2 := (Below.refl _ (w.alloc (.cells x.arr 24))).alloc (Nat.le_refl _) (.cells y.arr 24)
  have hby : ConfAt ((w.alloc (.cells x.arr 24)).alloc (.cells y.arr 24)) (w.heap.size + 1) y := by rw [← hz1]; exact heap_alloc_new _ _
  have hbx2 : ConfAt _ w.heap.size x := box_below hbx hb2
  have hB := hb1.trans (hb2.mono hb1.size)
  have k := fun W (h : Below w.heap.size w W) => ints10_any (.slice x.u.p x.u.n x.u.c) (.slice y.u.p y.u.n y.u.c) x.f.vs y.f.vs W (hx.u.below h (Nat.le_refl _)) (hy.u.below h (Nat.le_refl _)) (by have := hx.lu; omega) (by have := hy.lu; omega)
  have l := fun W (h : Below w.heap.size w W) => ints10_any (.slice x.v.p x.v.n x.v.c) (.slice y.v.p y.v.n y.v.c) x.f.ls y.f.ls W (hx.v.below h (Nat.le_refl _)) (hy.v.below h (Nat.le_refl _)) (by have := hx.lv; omega) (by have := hy.lv; omega)
  have HS : Hid (sameF10 x.f y.f = (decide (x.f.vs = y.f.vs) && decide (x.f.ls = y.f.ls))) := rfl
  generalize decide (x.f.vs = y.f.vs) = r1 at *
  generalize decide (x.f.ls = y.f.ls) = r2 at *
  have k1 := k _ hB
  have L : Hid _ := l
  generalize sameF10 x.f y.f = r at *
  obtain ⟨⟨p, n, c⟩, ⟨q, m, d⟩, f⟩ := x
  obtain ⟨⟨p', n', c'⟩, ⟨q', m', d'⟩, f'⟩ := y
  unfold ConfV.arr at *
  dsimp only at *
  clear hx hy k l hb1 hb2 hbx
  cases r1 with
  | false =>
    go_enter Tryz.func61, Tryz.ntmps61
    go_wp2_with fail
    refine k1.mono ?_
    rintro e w1 ⟨rfl, hb3⟩
    go_wp2
    go_ret
    rw [HS.out]
    exact ⟨rfl, hB.trans (hb3.mono hB.size)⟩
  | true =>
    go_enter Tryz.func61, Tryz.ntmps61
    go_wp2_with fail
    refine k1.mono ?_
    rintro e w1 ⟨rfl, hb3⟩
    have hB3 := hB.trans (hb3.mono hB.size)
    have k2 := L.out w1 hB3
    have e1 : ConfAt w1 w.heap.size ⟨⟨p, n, c⟩, ⟨q, m, d⟩, f⟩ := box_below hbx2 hb3
    have e2 : ConfAt w1 (w.heap.size + 1) ⟨⟨p', n', c'⟩, ⟨q', m', d'⟩, f'⟩ := box_below hby hb3
    obtain ⟨c0, c1⟩ := e1.cells
    obtain ⟨d0, d1⟩ := e2.cells
    dsimp only at c0 c1 d0 d1
    have hl1 := box_lt e1
    have hl2 := box_lt e2
    clear k1 hb3 hbx2 hby
    go_wp2_with fail
    refine k2.mono ?_
    rintro e w2 ⟨rfl, hb4⟩
    go_wp2
    go_ret
    rw [HS.out]
    exact ⟨by simp, hB3.trans (hb4.mono hB3.size)⟩

set_option maxRecDepth 100000 in
set_option maxHeartbeats 1500000 in
theorem rrises_any (p : Option Addr) (n c : Nat) (xs : List Int) (w : World) (h : HasI w (.slice p n c) xs) (hl : xs.length ≤ 17592186044416) :
    Calls Tryz.prog 148 #[.slice p n c] w fun e w' => e = .returned (.bool (rises10 xs)) ∧ w' = w := by
  obtain ⟨hn, hc, -⟩ := h.len
  have HN : Hid (xs.length = n) := hn
  rw [hn] at hl
  have HX : Hid (HasI w (.slice p n c) xs) := h
  clear hn h
  go_enter Tryz.func148, Tryz.ntmps148
  go_wp2
  go_loopw [7] (fun s7 wr => ∃ j : Nat, j ≤ n ∧ s7 = .int .i64 (j : Nat) ∧ wr = w ∧ Hid (∀ i, i < j → okAt10 xs i = true)) (fun s7 _ => n - (intOf s7).toNat)
  case atStart => exact ⟨0, Nat.zero_le _, rfl, rfl, fun i hi => by omega⟩
  case round =>
    obtain ⟨j, hj, rfl, rfl, hok⟩ := hrel
    by_cases hlt : j < n
    · obtain ⟨b, o, hp, hb, hcell⟩ := HX.out.at hlt
      have HO : Hid (okAt10 xs j = true ↔ (1 ≤ xs.getD j 0 ∧ xs.getD j 0 ≤ 9) ∧ (j = 0 ∨ xs.getD (j - 1) 0 < xs.getD j 0)) := okAt10_iff xs j
      have HF : Hid (¬ ((1 ≤ xs.getD j 0 ∧ xs.getD j 0 ≤ 9) ∧ (j = 0 ∨ xs.getD (j - 1) 0 < xs.getD j 0)) → rises10 xs = false) := fun hno => rises10_no (i := j) (by rw [HN.out]; exact hlt) (by
        cases hk : okAt10 xs j with
        | false => rfl
        | true => exact absurd (HO.out.1 hk) hno)
      have HS : Hid (((1 ≤ xs.getD j 0 ∧ xs.getD j 0 ≤ 9) ∧ (j = 0 ∨ xs.getD (j - 1) 0 < xs.getD j 0)) → ∀ i, i < j + 1 → okAt10 xs i = true) := fun hyes i hi => by
        by_cases e : i = j
        · rw [e]; exact HO.out.2 hyes
        · exact hok.out i (by omega)
      clear HO hok
      cases j with
      | zero =>
        subst hp
        rw [Nat.add_zero] at hcell
        generalize xs.getD 0 0 = x at *
        by_cases h1 : x < 1
        · have HR : Hid (rises10 xs = false) := HF.out (by omega)
          go_wp2
          go_ret
          rw [HR.out]
          exact ⟨rfl, rfl⟩
        by_cases h9 : 9 < x
        · have HR : Hid (rises10 xs = false) := HF.out (by omega)
          go_wp2
          go_ret
          rw [HR.out]
          exact ⟨rfl, rfl⟩
        have HR : Hid (∀ i, i < 0 + 1 → okAt10 xs i = true) := HS.out ⟨by omega, .inl rfl⟩
        clear HF HS
        go_wp2
        go_roundw
        case rel => exact ⟨0 + 1, by omega, by go_num, by trivial, HR.out⟩
        case measure => simp only [intOf]; omega
      | succ k =>
        obtain ⟨b', o', hp', hb', hcell'⟩ := HX.out.at (j := k) (by omega)
        rw [hp] at hp'
        simp only [Option.some.injEq, Addr.mk.injEq, and_true] at hp'
        obtain ⟨rfl, rfl⟩ := hp'
        subst hp
        rw [Nat.add_sub_cancel] at HF HS
        generalize xs.getD (k + 1) 0 = x at *
        generalize xs.getD k 0 = y at *
        have e1 : ((k + 1 : Nat) : Int) - 1 = (k : Int) := by omega
        by_cases h1 : x < 1
        · have HR : Hid (rises10 xs = false) := HF.out (by omega)
          go_wp2
          go_ret
          rw [HR.out]
          exact ⟨rfl, rfl⟩
        by_cases h9 : 9 < x
        · have HR : Hid (rises10 xs = false) := HF.out (by omega)
          go_wp2
          go_ret
          rw [HR.out]
          exact ⟨rfl, rfl⟩
        by_cases hxy : x ≤ y
        · have HR : Hid (rises10 xs = false) := HF.out (by omega)
          go_wp2
          go_ret
          rw [HR.out]
          exact ⟨rfl, rfl⟩
        have HR : Hid (∀ i, i < k + 1 + 1 → okAt10 xs i = true) := HS.out ⟨by omega, .inr (by omega)⟩
        clear HF HS
        go_wp2
        go_roundw
        case rel => exact ⟨k + 1 + 1, by omega, by go_num, by trivial, HR.out⟩
        case measure => simp only [intOf]; omega
    · have HT : Hid (rises10 xs = true) := rises10_yes fun i hi => hok.out i (by rw [HN.out] at hi; omega)
      go_wp2
      go_ret
      rw [HT.out]
      exact ⟨rfl, rfl⟩

theorem goodF10_apart {c : Conf10} {i : Nat} (hi : i < c.vs.length) (h : hasI10 c.ls (c.vs.getD i 0) = true) : goodF10 c = false := by
  rw [goodF10_is]
  have : (c.vs.any fun x => hasI10 c.ls x) = true := by
    rw [List.any_eq_true]
    refine ⟨c.vs.getD i 0, ?_, h⟩
    rw [List.getD_eq_getElem?_getD, List.getElem?_eq_getElem hi]
    exact List.getElem_mem _
  rw [this]
  simp
theorem goodF10_all {c : Conf10} (h1 : rises10 c.vs = true) (h2 : rises10 c.ls = true) (h3 : c.vs.length ≠ 0) (h : ∀ i, i < c.vs.length → hasI10 c.ls (c.vs.getD i 0) = false) : goodF10 c = true := by
  rw [goodF10_is, h1, h2]
  have e1 : c.vs.isEmpty = false := by
    cases hv : c.vs with
    | nil => rw [hv] at h3; exact absurd rfl h3
    | cons => rfl
  have e2 : (c.vs.any fun x => hasI10 c.ls x) = false := by
    rw [List.any_eq_false]
    intro a ha
    obtain ⟨i, hi, rfl⟩ := List.getElem_of_mem ha
    have := h i hi
    rw [List.getD_eq_getElem?_getD, List.getElem?_eq_getElem hi] at this
    simpa using this
  rw [e1, e2]
  rfl

set_option maxRecDepth 100000 in
set_option maxHeartbeats 2000000 in
theorem rgoodConf_any (x : ConfV) (w : World) (h : FitsF w x) : Calls Tryz.prog 109 #[.agg x.arr] w fun e w' => e = .returned (.bool (goodF10 x.f)) ∧ Below w.heap.size w w' := by
  have HG : Hid (goodF10 x.f = (!x.f.vs.isEmpty && rises10 x.f.vs && rises10 x.f.ls && !(x.f.vs.any fun a => hasI10 x.f.ls a))) := goodF10_is x.f
  have hB1 : Below w.heap.size w (w.alloc (.cells x.arr 24)) := (Below.refl _ _).alloc (Nat.le_refl _) _
  have hbox : ConfAt (w.alloc (.cells x.arr 24)) w.heap.size x := heap_alloc_new w _
  have h1 := h.below hB1
  have k1 := rrises_any _ _ _ _ _ h1.u h1.lu
  have k2 := rrises_any _ _ _ _ _ h1.v h1.lv
  have hn := h.u.len.1
  have hm := h.v.len.1
  have HE : Hid (x.f.vs.isEmpty = decide (x.u.n = 0)) := by
    rw [Hid, ← hn]
    cases x.f.vs <;> simp
  have HY : Hid (∀ i, i < x.u.n → hasI10 x.f.ls (x.f.vs.getD i 0) = true → goodF10 x.f = false) := fun i hi h => goodF10_apart (by rw [hn]; exact hi) h
  have HA : Hid (rises10 x.f.vs = true → rises10 x.f.ls = true → x.u.n ≠ 0 → (∀ i, i < x.u.n → hasI10 x.f.ls (x.f.vs.getD i 0) = false) → goodF10 x.f = true) := fun a b c d => goodF10_all a b (by rw [hn]; exact c) fun i hi => d i (by rw [← hn]; exact hi)
  have HU : Hid (HasI (w.alloc (.cells x.arr 24)) (.slice x.u.p x.u.n x.u.c) x.f.vs) := h1.u
  have HV : Hid (HasI (w.alloc (.cells x.arr 24)) (.slice x.v.p x.v.n x.v.c) x.f.ls) := h1.v
  have hln := h.lu
  have hlm := h.lv
  have HM : Hid (x.f.ls.length = x.v.n) := hm
  rw [hn] at hln
  rw [hm] at hlm
  have hU := h1.u.len.2.1
  have hV := h1.v.len.2.1
  obtain ⟨⟨p, n, c⟩, ⟨q, m, d⟩, f⟩ := x
  unfold ConfV.arr at *
  dsimp only at *
  generalize hr1 : rises10 f.vs = r1 at *
  generalize hr2 : rises10 f.ls = r2 at *
  have hbz := hB1.size
  clear h h1 hn hm hr1 hr2
  cases r1 with
  | false =>
    have HF : Hid (goodF10 f = false) := by rw [Hid, HG.out]; simp
    clear HG HE HY HA HU HV
    go_enter Tryz.func109, Tryz.ntmps109
    go_wp2_with fail
    refine same_mono k1 ?_
    go_wp2
    go_ret
    rw [HF.out]
    exact ⟨rfl, hB1⟩
  | true =>
    cases r2 with
    | false =>
      have HF : Hid (goodF10 f = false) := by rw [Hid, HG.out]; simp
      clear HG HE HY HA HU HV
      go_enter Tryz.func109, Tryz.ntmps109
      go_wp2_with fail
      refine same_mono k1 ?_
      go_wp2_with fail
      refine same_mono k2 ?_
      go_wp2
      go_ret
      rw [HF.out]
      exact ⟨rfl, hB1⟩
    | true =>
      by_cases h0 : n = 0
      · have HF : Hid (goodF10 f = false) := by rw [Hid, HG.out, HE.out, decide_eq_true h0]; rfl
        subst h0
        clear HG HE HY HA HU HV
        go_enter Tryz.func109, Tryz.ntmps109
        go_wp2_with fail
        refine same_mono k1 ?_
        go_wp2_with fail
        refine same_mono k2 ?_
        go_wp2
        go_ret
        rw [HF.out]
        exact ⟨rfl, hB1⟩
      · have h00 : ((n : Int) == 0) = false := by simp; omega
        have HA2 : Hid ((∀ i, i < n → hasI10 f.ls (f.vs.getD i 0) = false) → goodF10 f = true) := HA.out rfl rfl h0
        clear HG HE HA
        go_enter Tryz.func109, Tryz.ntmps109
        go_wp2_with fail
        refine same_mono k1 ?_
        go_wp2_with fail
        refine same_mono k2 ?_
        go_wp2
        generalize w.alloc (.cells #[.slice p n c, .slice q m d] 24) = W1 at *
        obtain ⟨c0, c1⟩ := hbox.cells
        dsimp only at c0 c1
        have hlt := box_lt hbox
        generalize hbb : w.heap.size = bb at *
        have Hbb : Hid (w.heap.size = bb) := hbb
        clear hbb k1 k2 hbox
        go_loopw [26] (fun s26 wr => ∃ j : Nat, j ≤ n ∧ s26 = .int .i64 (j : Nat) ∧ wr = W1 ∧ Hid (∀ i, i < j → hasI10 f.ls (f.vs.getD i 0) = false)) (fun s26 _ => n - (intOf s26).toNat)
        case atStart => exact ⟨0, Nat.zero_le _, rfl, rfl, fun i hi => by omega⟩
        case round =>
          obtain ⟨j, hj, rfl, rfl, hok⟩ := hrel
          by_cases hjn : j < n
          · obtain ⟨b1, o1, rfl, hb1, hc1⟩ := HU.out.at hjn
            have HJ : Hid (hasI10 f.ls (f.vs.getD j 0) = true → goodF10 f = false) := HY.out j hjn
            have HK : Hid (hasI10 f.ls (f.vs.getD j 0) = false → ∀ i, i < j + 1 → hasI10 f.ls (f.vs.getD i 0) = false) := fun hh i hi => by
              by_cases e : i = j
              · rw [e]; exact hh
              · exact hok.out i (by omega)
            clear hok
            generalize f.vs.getD j 0 = a at *
            go_wp2
            go_loopw [33] (fun s33 wq => ∃ k : Nat, k ≤ m ∧ s33 = .int .i64 (k : Nat) ∧ wq = wr ∧ Hid (∀ i, i < k → a ≠ f.ls.getD i 0)) (fun s33 _ => m - (intOf s33).toNat)
            case atStart => exact ⟨0, Nat.zero_le _, rfl, rfl, fun i hi => by omega⟩
            case round =>
              obtain ⟨k, hk, rfl, rfl, hno⟩ := hrel
              by_cases hkm : k < m
              · obtain ⟨b2, o2, rfl, hb2, hc2⟩ := HV.out.at hkm
                by_cases hab : a = f.ls.getD k 0
                · have HF : Hid (goodF10 f = false) := HJ.out (hasI10_yes (by rw [HM.out]; exact hkm) hab)
                  have he : (a == f.ls.getD k 0) = true := by simpa using hab
                  clear hno hab
                  generalize f.ls.getD k 0 = b at *
                  go_wp2
                  go_ret
                  rw [HF.out]
                  exact ⟨rfl, by rw [Hbb.out]; exact hB1⟩
                · have HS : Hid (∀ i, i < k + 1 → a ≠ f.ls.getD i 0) := fun i hi => by
                    by_cases e : i = k
                    · rw [e]; exact hab
                    · exact hno.out i (by omega)
                  have he : (a == f.ls.getD k 0) = false := by simpa using hab
                  clear hno hab
                  generalize f.ls.getD k 0 = b at *
                  go_wp2
                  go_roundw
                  case rel => exact ⟨k + 1, by omega, by go_num, by trivial, HS.out⟩
                  case measure => simp only [intOf]; omega
              · have HS : Hid (∀ i, i < j + 1 → hasI10 f.ls (f.vs.getD i 0) = false) := HK.out (hasI10_no fun i hi => hno.out i (by rw [HM.out] at hi; omega))
                clear hno HK HJ
                go_wp2
                go_roundw
                case rel => exact ⟨j + 1, by omega, by go_num, by trivial, HS.out⟩
                case measure => simp only [intOf]; omega
          · have HF : Hid (goodF10 f = true) := HA2.out fun i hi => hok.out i (by omega)
            go_wp2
            go_ret
            rw [HF.out]
            exact ⟨rfl, by rw [Hbb.out]; exact hB1⟩

set_option maxRecDepth 100000 in
set_option maxHeartbeats 2000000 in
theorem goodSnap_any (x : SnapV) (w : World) (hF : FitsS w x) : Calls Tryz.prog 42 #[.agg x.arr] w fun e w' => e = .returned (.bool (goodS10 x.s)) ∧ Below w.heap.size w w' := by
  have hb1 : Below w.heap.size w (w.alloc (.cells x.arr 27)) := (Below.refl _ _).alloc (Nat.le_refl _) _
  have hbox : SnapAt (w.alloc (.cells x.arr 27)) w.heap.size x := heap_alloc_new w _
  have hbz := hb1.size
  have kf := goodConf_any x.f _ (hF.f.below hb1)
  have hn := hF.w.len.1
  have HG : Hid (goodS10 x.s = (decide (1 ≤ x.i) && decide (1 ≤ x.t) && goodF10 x.f.f && decide ((x.w.n : Int) ≤ 1048576))) := by
    rw [Hid, ← hn]
    unfold goodS10 SnapV.s
    dsimp only
    congr 1
    rw [decide_eq_decide]
    omega
  generalize goodF10 x.f.f = rf at *
  generalize goodS10 x.s = r at *
  clear hF hn
  obtain ⟨i, t, ⟨⟨p, n, c⟩, ⟨q, m, d⟩, f⟩, ⟨a, b, e⟩, dd⟩ := x
  unfold SnapV.arr at *
  unfold ConfV.arr at *
  dsimp only at *
  by_cases h1 : 1 ≤ i
  case neg =>
    have HF : Hid (r = false) := by rw [Hid, HG.out, decide_eq_false h1]; rfl
    clear HG kf
    go_enter Tryz.func42, Tryz.ntmps42
    go_wp2
    go_ret
    rw [HF.out]
    exact ⟨rfl, hb1⟩
  by_cases h2 : 1 ≤ t
  case neg =>
    have HF : Hid (r = false) := by rw [Hid, HG.out, decide_eq_false h2]; simp
    clear HG kf
    go_enter Tryz.func42, Tryz.ntmps42
    go_wp2
    go_ret
    rw [HF.out]
    exact ⟨rfl, hb1⟩
  have HF : Hid (r = (rf && decide ((b : Int) ≤ 1048576))) := by rw [Hid, HG.out, decide_eq_true h1, decide_eq_true h2]; rfl
  clear HG
  cases rf with
  | false =>
    go_enter Tryz.func42, Tryz.ntmps42
    go_wp2_with fail
    refine kf.mono ?_
    rintro e w3 ⟨rfl, hb3⟩
    have hb9 := hb1.trans (hb3.mono hbz)
    go_wp2
    go_ret
    rw [HF.out]
    exact ⟨rfl, hb9⟩
  | true =>
    go_enter Tryz.func42, Tryz.ntmps42
    go_wp2_with fail
    generalize w.alloc (.cells #[.int .i64 i, .int .i64 t, .slice p n c, .slice q m d, .slice a b e] 27) = W1 at *
    refine kf.mono ?_
    rintro e' w3 ⟨rfl, hb3⟩
    have hb9 := hb1.trans (hb3.mono hbz)
    have hbox3 : SnapAt w3 w.heap.size ⟨i, t, ⟨⟨p, n, c⟩, ⟨q, m, d⟩, f⟩, ⟨a, b, e⟩, dd⟩ := box_below hbox hb3
    obtain ⟨c0, c1, c2, c3, c4⟩ := hbox3.cells
    dsimp only at c0 c1 c2 c3 c4
    have hlt := box_lt hbox3
    clear hbox kf
    go_wp2
    go_ret
    rw [HF.out]
    exact ⟨rfl, hb9⟩

set_option maxRecDepth 100000 in
set_option maxHeartbeats 2000000 in
theorem rgoodSnap_any (x : SnapV) (w : World) (hF : FitsS w x) : Calls Tryz.prog 45 #[.agg x.arr] w fun e w' => e = .returned (.bool (goodS10 x.s)) ∧ Below w.heap.size w w' := by
  have hb1 : Below w.heap.size w (w.alloc (.cells x.arr 27)) := (Below.refl _ _).alloc (Nat.le_refl _) _
  have hbox : SnapAt (w.alloc (.cells x.arr 27)) w.heap.size x := heap_alloc_new w _
  have hbz := hb1.size
  have kf := rgoodConf_any x.f _ (hF.f.below hb1)
  have hn := hF.w.len.1
  have HG : Hid (goodS10 x.s = (decide (1 ≤ x.i) && decide (1 ≤ x.t) && goodF10 x.f.f && decide ((x.w.n : Int) ≤ 1048576))) := by
    rw [Hid, ← hn]
    unfold goodS10 SnapV.s
    dsimp only
    congr 1
    rw [decide_eq_decide]
    omega
  generalize goodF10 x.f.f = rf at *
  generalize goodS10 x.s = r at *
  clear hF hn
  obtain ⟨i, t, ⟨⟨p, n, c⟩, ⟨q, m, d⟩, f⟩, ⟨a, b, e⟩, dd⟩ := x
  unfold SnapV.arr at *
  unfold ConfV.arr at *
  dsimp only at *
  by_cases h1 : 1 ≤ i
  case neg =>
    have HF : Hid (r = false) := by rw [Hid, HG.out, decide_eq_false h1]; rfl
    clear HG kf
    go_enter Tryz.func45, Tryz.ntmps45
    go_wp2
    go_ret
    rw [HF.out]
    exact ⟨rfl, hb1⟩
  by_cases h2 : 1 ≤ t
  case neg =>
    have HF : Hid (r = false) := by rw [Hid, HG.out, decide_eq_false h2]; simp
    clear HG kf
    go_enter Tryz.func45, Tryz.ntmps45
    go_wp2
    go_ret
    rw [HF.out]
    exact ⟨rfl, hb1⟩
  have HF : Hid (r = (rf && decide ((b : Int) ≤ 1048576))) := by rw [Hid, HG.out, decide_eq_true h1, decide_eq_true h2]; rfl
  clear HG
  cases rf with
  | false =>
    go_enter Tryz.func45, Tryz.ntmps45
    go_wp2_with fail
    refine kf.mono ?_
    rintro e w3 ⟨rfl, hb3⟩
    have hb9 := hb1.trans (hb3.mono hbz)
    go_wp2
    go_ret
    rw [HF.out]
    exact ⟨rfl, hb9⟩
  | true =>
    go_enter Tryz.func45, Tryz.ntmps45
    go_wp2_with fail
    generalize w.alloc (.cells #[.int .i64 i, .int .i64 t, .slice p n c, .slice q m d, .slice a b e] 27) = W1 at *
    refine kf.mono ?_
    rintro e' w3 ⟨rfl, hb3⟩
    have hb9 := hb1.trans (hb3.mono hbz)
    have hbox3 : SnapAt w3 w.heap.size ⟨i, t, ⟨⟨p, n, c⟩, ⟨q, m, d⟩, f⟩, ⟨a, b, e⟩, dd⟩ := box_below hbox hb3
    obtain ⟨c0, c1, c2, c3, c4⟩ := hbox3.cells
    dsimp only at c0 c1 c2 c3 c4
    have hlt := box_lt hbox3
    clear hbox kf
    go_wp2
    go_ret
    rw [HF.out]
    exact ⟨rfl, hb9⟩

def Outs (w : World) (ys : List Int) (e : Ending) (w' : World) : Prop := ∃ v', e = .returned v' ∧ Has w' v' ys ∧ Below w.heap.size w w'

set_option maxRecDepth 100000 in
set_option maxHeartbeats 1500000 in
theorem rnums_any (w : World) (v : Value) (xs ns : List Int) (p : Option Addr) (n c : Nat) (h : Has w v xs) (hN : HasI w (.slice p n c) ns) (hn2 : n ≤ 1000) (hl : xs.length ≤ 1073741824) :
    Calls Tryz.prog 151 #[v, .slice p n c] w (Outs w (xs ++ numsB ns)) := by
  have HN : Hid (ns.length = n) := hN.len.1
  have HX : Hid (HasI w (.slice p n c) ns) := hN
  clear hN
  go_enter Tryz.func151, Tryz.ntmps151
  go_wp2
  go_loopw [0, 9] (fun s0 s9 wr => ∃ (j : Nat) (u : Value), u = s0 ∧ j ≤ n ∧ s9 = .int .i64 (j : Nat) ∧ Has wr u (xs ++ numsB (ns.take j)) ∧ Below w.heap.size w wr) (fun _ s9 _ => n - (intOf s9).toNat)
  case atStart => exact ⟨0, _, rfl, Nat.zero_le _, rfl, by rw [List.take_zero, show numsB [] = [] from rfl, List.append_nil]; exact h, Below.refl _ _⟩
  case round =>
    clear h
    obtain ⟨j, u, hu, hj, rfl, hP, hb⟩ := hrel
    subst hu
    by_cases hlt : j < n
    · obtain ⟨b, o, rfl, hb0, hc0⟩ := HX.out.at hlt
      have hc := (hb.cell (p := ⟨b, o + j, none⟩) hb0).trans hc0
      have hbl : b < wr.heap.size := Nat.lt_of_lt_of_le hb0 hb.size
      have HS : Hid (numsB (ns.take (j + 1)) = numsB (ns.take j) ++ zigB (ns.getD j 0)) := numsB_snoc (by rw [HN.out]; exact hlt)
      have hlen := numsB_take ns j
      rw [HN.out] at hlen
      generalize ns.getD j 0 = x at *
      have hzz := rzig_any x wr
      have hzb := zig_bd x
      have hpp := rput_cod u _ (zigS x) wr hP (by rw [List.length_append]; omega) hzb.1 hzb.2
      have HZ : Hid (zigB x = numB (zigS x)) := rfl
      generalize zigS x = z at *
      have hbz := hb.size
      clear hP hc0 hb0
      go_wp2_with fail
      refine same_mono hzz ?_
      go_wp2_with fail
      refine hpp.mono ?_
      rintro e w3 ⟨v3, rfl, ho3, hb3⟩
      clear hzz hpp
      go_wp2
      go_roundw
      case rel => exact ⟨j + 1, _, rfl, by omega, by go_num, by rw [HS.out, HZ.out, ← List.append_assoc]; exact ho3.has, hb.trans (hb3.mono hbz)⟩
      case measure => simp only [intOf]; omega
    · rw [List.take_of_length_le (by rw [HN.out]; omega)] at hP
      go_wp2
      go_ret
      exact ⟨_, rfl, hP, hb⟩

set_option maxRecDepth 100000 in
set_option maxHeartbeats 1500000 in
theorem rlist_any (w : World) (v : Value) (xs ns : List Int) (p : Option Addr) (n c : Nat) (h : Has w v xs) (hN : HasI w (.slice p n c) ns) (hn2 : n ≤ 1000) (hl : xs.length ≤ 1073700000) :
    Calls Tryz.prog 182 #[v, .slice p n c] w (Outs w (xs ++ listB ns)) := by
  have hn := hN.len.1
  have HL : Hid (xs ++ listB ns = xs ++ numB (n : Int) ++ numsB ns) := by rw [Hid, listB, hn, List.append_assoc]
  have k1 := rput_cod v xs (n : Int) w h (by omega) (by omega) (by omega)
  have hnl := numB_le (n : Int)
  have k2 := fun W u (hb : Below w.heap.size w W) (hu : Has W u (xs ++ numB (n : Int))) => rnums_any W u _ ns p n c hu (hN.below hb (Nat.le_refl _)) hn2 (by rw [List.length_append]; omega)
  clear h hN hn
  go_enter Tryz.func182, Tryz.ntmps182
  go_wp2_with fail
  refine k1.mono ?_
  rintro e w1 ⟨v1, rfl, ho1, hb1⟩
  have k3 := k2 w1 v1 hb1 ho1.has
  clear k1 k2
  go_wp2_with fail
  refine k3.mono ?_
  rintro e w2 ⟨v2, rfl, ho2, hb2⟩
  go_wp2
  go_ret
  exact ⟨_, rfl, by rw [HL.out]; exact ho2, hb1.trans (hb2.mono hb1.size)⟩

theorem keepF {w1 wA wB : World} {b : Nat} {xb0 xb1 : Value} (hlb : b < w1.heap.size) (h : wA.cell? ⟨b, 0, none⟩ = some xb0 ∧ wA.cell? ⟨b, 1, none⟩ = some xb1 ∧ Below w1.heap.size w1 wA) (hb : Below wA.heap.size wA wB) :
    wB.cell? ⟨b, 0, none⟩ = some xb0 ∧ wB.cell? ⟨b, 1, none⟩ = some xb1 ∧ Below w1.heap.size w1 wB := by
  obtain ⟨h0, h1, hz⟩ := h
  have hs := hz.size
  exact ⟨(hb.cell (p := ⟨b, 0, none⟩) (by exact Nat.lt_of_lt_of_le hlb hs)).trans h0, (hb.cell (p := ⟨b, 1, none⟩) (by exact Nat.lt_of_lt_of_le hlb hs)).trans h1, hz.trans (hb.mono hs)⟩
theorem keepF0 {w1 : World} {b : Nat} {xb0 xb1 : Value} (h0 : w1.cell? ⟨b, 0, none⟩ = some xb0) (h1 : w1.cell? ⟨b, 1, none⟩ = some xb1) : w1.drew.cell? ⟨b, 0, none⟩ = some xb0 ∧ w1.drew.cell? ⟨b, 1, none⟩ = some xb1 ∧ Below w1.heap.size w1 w1.drew :=
  ⟨h0, h1, ⟨rfl, rfl, rfl, Nat.le_refl _, fun _ _ => rfl⟩⟩
theorem keepFB {w1 wA : World} {b : Nat} {xb0 xb1 : Value} (h : wA.cell? ⟨b, 0, none⟩ = some xb0 ∧ wA.cell? ⟨b, 1, none⟩ = some xb1 ∧ Below w1.heap.size w1 wA) : Below w1.heap.size w1 wA := h.2.2

theorem keepS {w1 wA wB : World} {b : Nat} {xb0 xb1 xb2 xb3 xb4 : Value} (hlb : b < w1.heap.size) (h : wA.cell? ⟨b, 0, none⟩ = some xb0 ∧ wA.cell? ⟨b, 1, none⟩ = some xb1 ∧ wA.cell? ⟨b, 2, none⟩ = some xb2 ∧ wA.cell? ⟨b, 3, none⟩ = some xb3 ∧ wA.cell? ⟨b, 4, none⟩ = some xb4 ∧ Below w1.heap.size w1 wA) (hb : Below wA.heap.size wA wB) :
    wB.cell? ⟨b, 0, none⟩ = some xb0 ∧ wB.cell? ⟨b, 1, none⟩ = some xb1 ∧ wB.cell? ⟨b, 2, none⟩ = some xb2 ∧ wB.cell? ⟨b, 3, none⟩ = some xb3 ∧ wB.cell? ⟨b, 4, none⟩ = some xb4 ∧ Below w1.heap.size w1 wB := by
  obtain ⟨h0, h1, h2, h3, h4, hz⟩ := h
  have hs := hz.size
  exact ⟨(hb.cell (p := ⟨b, 0, none⟩) (by exact Nat.lt_of_lt_of_le hlb hs)).trans h0, (hb.cell (p := ⟨b, 1, none⟩) (by exact Nat.lt_of_lt_of_le hlb hs)).trans h1, (hb.cell (p := ⟨b, 2, none⟩) (by exact Nat.lt_of_lt_of_le hlb hs)).trans h2, (hb.cell (p := ⟨b, 3, none⟩) (by exact Nat.lt_of_lt_of_le hlb hs)).trans h3, (hb.cell (p := ⟨b, 4, none⟩) (by exact Nat.lt_of_lt_of_le hlb hs)).trans h4, hz.trans (hb.mono hs)⟩
theorem keepS0 {w1 : World} {b : Nat} {xb0 xb1 xb2 xb3 xb4 : Value} (h0 : w1.cell? ⟨b, 0, none⟩ = some xb0) (h1 : w1.cell? ⟨b, 1, none⟩ = some xb1) (h2 : w1.cell? ⟨b, 2, none⟩ = some xb2) (h3 : w1.cell? ⟨b, 3, none⟩ = some xb3) (h4 : w1.cell? ⟨b, 4, none⟩ = some xb4) : w1.drew.cell? ⟨b, 0, none⟩ = some xb0 ∧ w1.drew.cell? ⟨b, 1, none⟩ = some xb1 ∧ w1.drew.cell? ⟨b, 2, none⟩ = some xb2 ∧ w1.drew.cell? ⟨b, 3, none⟩ = some xb3 ∧ w1.drew.cell? ⟨b, 4, none⟩ = some xb4 ∧ Below w1.heap.size w1 w1.drew :=
  ⟨h0, h1, h2, h3, h4, ⟨rfl, rfl, rfl, Nat.le_refl _, fun _ _ => rfl⟩⟩
theorem keepSB {w1 wA : World} {b : Nat} {xb0 xb1 xb2 xb3 xb4 : Value} (h : wA.cell? ⟨b, 0, none⟩ = some xb0 ∧ wA.cell? ⟨b, 1, none⟩ = some xb1 ∧ wA.cell? ⟨b, 2, none⟩ = some xb2 ∧ wA.cell? ⟨b, 3, none⟩ = some xb3 ∧ wA.cell? ⟨b, 4, none⟩ = some xb4 ∧ Below w1.heap.size w1 wA) : Below w1.heap.size w1 wA := h.2.2.2.2.2

set_option maxRecDepth 100000 in
set_option maxHeartbeats 2000000 in
theorem rconf_any (w : World) (v : Value) (xs : List Int) (x : ConfV) (h : Has w v xs) (hF : FitsF w x) (hf : FewF x.f) (hl : xs.length ≤ 1073600000) :
    Calls Tryz.prog 150 #[v, .agg x.arr] w (Outs w (xs ++ confB x.f)) := by
  have hb1 : Below w.heap.size w (w.alloc (.cells x.arr 24)) := (Below.refl _ _).alloc (Nat.le_refl _) _
  have hbz := hb1.size
  have hbox : ConfAt (w.alloc (.cells x.arr 24)) w.heap.size x := heap_alloc_new w _
  have hn1 := hF.u.len.1
  have hn2 := hF.v.len.1
  obtain ⟨f1, f2⟩ := hf
  have HC : Hid (xs ++ confB x.f = xs ++ listB x.f.vs ++ listB x.f.ls) := by rw [Hid, confB, List.append_assoc]
  have hll := listB_len x.f.vs
  have k1 := fun W (hb : Below (w.alloc (.cells x.arr 24)).heap.size (w.alloc (.cells x.arr 24)) W) => rlist_any W v xs x.f.vs _ _ _ ((h.below hb1 (Nat.le_refl _)).below hb (Nat.le_refl _)) ((hF.below hb1).below hb).u (by omega) (by omega)
  have k2 := fun W u (hu : Has W u (xs ++ listB x.f.vs)) (hb : Below (w.alloc (.cells x.arr 24)).heap.size (w.alloc (.cells x.arr 24)) W) => rlist_any W u (xs ++ listB x.f.vs) x.f.ls _ _ _ hu ((hF.below hb1).below hb).v (by omega) (by rw [List.length_append]; omega)
  have HK1 : Hid _ := k1
  have HK2 : Hid _ := k2
  generalize xs ++ confB x.f = bs at *
  generalize xs ++ listB x.f.vs ++ listB x.f.ls = y2 at *
  generalize xs ++ listB x.f.vs = y1 at *
  obtain ⟨pv, cv, rfl, -, -, -⟩ := id h
  generalize hxl : xs.length = nv at *
  clear hxl
  obtain ⟨⟨p, n, c⟩, ⟨q, m, d⟩, f⟩ := x
  unfold ConfV.arr at *
  dsimp only at *
  clear hF hn1 hn2 h k1 k2
  go_enter Tryz.func150, Tryz.ntmps150
  go_wp2_with fail
  generalize w.alloc (.cells #[.slice p n c, .slice q m d] 24) = W1 at *
  have k1 := HK1.out
  have k2 := HK2.out
  obtain ⟨c0, c1⟩ := hbox.cells
  dsimp only at c0 c1
  have hlt := box_lt hbox
  generalize hbb : w.heap.size = b at *
  have Hbb : Hid (w.heap.size = b) := hbb
  clear hbb HK1 HK2
  have s0 := keepF0 c0 c1
  go_region_held3 (fun w' => w'.cell? ⟨b, 0, none⟩ = some (.slice p n c) ∧ w'.cell? ⟨b, 1, none⟩ = some (.slice q m d) ∧ Below W1.heap.size W1 w')
    (first | exact s0 | assumption | exact keepF hlt (by assumption) (by assumption))
    (first
      | (go_at_call 182; (with_reducible refine Calls.mono (k1 _ (keepFB (by assumption))) ?_); rintro e w2 ⟨v2, rfl, ho2, hb2⟩; obtain ⟨p2, q2, rfl, -, -, -⟩ := id ho2)
      | (go_at_call 182; (with_reducible refine Calls.mono (k2 _ _ ho2 (keepFB (by assumption))) ?_); rintro e w3 ⟨v3, rfl, ho3, hb3⟩))
  all_goals
    have hW : Below W1.heap.size W1 w3 := keepFB (by assumption)
    go_wp2
    go_ret
    exact ⟨_, rfl, by rw [HC.out]; exact ho3, by rw [Hbb.out]; exact hb1.trans (hW.mono hbz)⟩

set_option maxRecDepth 100000 in
set_option maxHeartbeats 2000000 in
theorem rsnap_big (w : World) (v : Value) (xs : List Int) (x : SnapV) (h : Has w v xs) (hF : FitsS w x) (hf : FewF x.f.f) (hd : x.d.length ≤ 1048576) (hl : xs.length ≤ 1073000000) :
    Calls Tryz.prog 110 #[v, .agg x.arr] w (Outs w (xs ++ snapB x.s)) := by
  have hb1 : Below w.heap.size w (w.alloc (.cells x.arr 27)) := (Below.refl _ _).alloc (Nat.le_refl _) _
  have hbz := hb1.size
  have hbox : SnapAt (w.alloc (.cells x.arr 27)) w.heap.size x := heap_alloc_new w _
  have HN : Hid (numsB [x.i, x.t] = zigB x.i ++ zigB x.t) := by simp [Hid, numsB]
  have HE : Hid (xs ++ snapB x.s = xs ++ numsB [x.i, x.t] ++ confB x.f.f ++ bytB x.d) := by
    rw [Hid, HN.out]
    unfold snapB SnapV.s
    dsimp only
    simp only [List.append_assoc]
  have hl1 : (numsB [x.i, x.t]).length ≤ 18 := numsB_len _
  have hl2 := confB_len hf
  have kt : Hid (∀ W u, Has W u (xs ++ numsB [x.i, x.t] ++ confB x.f.f) → Calls Tryz.prog 149 #[u, .string (strOfNums x.d)] W fun e w' => ∃ v', e = .returned v' ∧ Owns w' W.heap.size 5 v' (xs ++ numsB [x.i, x.t] ++ confB x.f.f ++ bytB x.d) ∧ Below W.heap.size W w') := fun W u hu => by
    have := rputText_any u _ (strOfNums x.d) W hu (by rw [List.length_append, List.length_append]; omega) (by rw [size_of hF.b]; omega)
    rwa [textB_of hF.b] at this
  have kf : Hid (∀ W u, Below (w.alloc (.cells x.arr 27)).heap.size (w.alloc (.cells x.arr 27)) W → Has W u (xs ++ numsB [x.i, x.t]) → Calls Tryz.prog 150 #[u, .agg x.f.arr] W (Outs W (xs ++ numsB [x.i, x.t] ++ confB x.f.f))) := fun W u hb hu => rconf_any W u _ x.f hu ((hF.f.below hb1).below hb) hf (by rw [List.length_append]; omega)
  have kn : Hid (∀ (V : World) (R : Nat), HasI V (.slice (some ⟨R, 0, none⟩) 2 2) [x.i, x.t] → Below (w.alloc (.cells x.arr 27)).heap.size (w.alloc (.cells x.arr 27)) V → Calls Tryz.prog 151 #[v, .slice (some ⟨R, 0, none⟩) 2 2] V (Outs V (xs ++ numsB [x.i, x.t]))) := fun V R hR hb => rnums_any _ v xs [x.i, x.t] _ 2 2 ((h.below hb1 (Nat.le_refl _)).below hb (Nat.le_refl _)) hR (by omega) (by omega)
  have cv : Hid (∀ W, Below (w.alloc (.cells x.arr 27)).heap.size (w.alloc (.cells x.arr 27)) W → (convert 25 9 (.slice x.w.p x.w.n x.w.c)).run Tryz.prog W = .ok (.string (strOfNums x.d)) W) := fun W hb => ((hF.w.below hb1 (Nat.le_refl _)).below hb (Nat.le_refl _)).conv (P := Tryz.prog) 25 5 9 Tryz.underlying25 Tryz.underlying5 Tryz.underlying9
  obtain ⟨pv, cv0, rfl, -, -, -⟩ := id h
  generalize hxl : xs.length = nv at *
  clear hxl h hd hf hF HN
  generalize xs ++ snapB x.s = bs at *
  generalize xs ++ numsB [x.i, x.t] ++ confB x.f.f ++ bytB x.d = y3 at *
  generalize xs ++ numsB [x.i, x.t] ++ confB x.f.f = y2 at *
  generalize xs ++ numsB [x.i, x.t] = y1 at *
  obtain ⟨i, t, ⟨⟨p, n, c⟩, ⟨q, m, d⟩, f⟩, ⟨a, b0, e0⟩, dd⟩ := x
  unfold SnapV.arr at *
  unfold ConfV.arr at *
  dsimp only at *
  generalize strOfNums dd = sd at *
  go_enter Tryz.func110, Tryz.ntmps110
  go_wp2_with fail
  generalize w.alloc (.cells #[.int .i64 i, .int .i64 t, .slice p n c, .slice q m d, .slice a b0 e0] 27) = W1 at *
  have an := kn.out
  have af := kf.out
  have at' := kt.out
  have ac : Hid _ := cv.out
  clear kn kf kt cv
  obtain ⟨c0, c1, c2, c3, c4⟩ := hbox.cells
  dsimp only at c0 c1 c2 c3 c4
  have hlt := box_lt hbox
  generalize hbb : w.heap.size = b at *
  have Hbb : Hid (w.heap.size = b) := hbb
  clear hbb
  have cd : (convert 25 9 (.slice a b0 e0)).run Tryz.prog W1.drew = .ok (.string sd) W1.drew := ac.out _ ⟨rfl, rfl, rfl, Nat.le_refl _, fun _ _ => rfl⟩
  have s0 := And.intro cd (keepS0 c0 c1 c2 c3 c4)
  have hlit : HasI (W1.alloc (.cells #[.int .i64 i, .int .i64 t] 3)).drew (.slice (some ⟨W1.heap.size, 0, none⟩) 2 2) [i, t] := HasI.lit W1 [i, t] 3
  have kk : Hid (∀ wA wB : World, ((convert 25 9 (.slice a b0 e0)).run Tryz.prog wA = .ok (.string sd) wA ∧ wA.cell? ⟨b, 0, none⟩ = some (.int .i64 i) ∧ wA.cell? ⟨b, 1, none⟩ = some (.int .i64 t) ∧ wA.cell? ⟨b, 2, none⟩ = some (.slice p n c) ∧ wA.cell? ⟨b, 3, none⟩ = some (.slice q m d) ∧ wA.cell? ⟨b, 4, none⟩ = some (.slice a b0 e0) ∧ Below W1.heap.size W1 wA) → Below wA.heap.size wA wB → ((convert 25 9 (.slice a b0 e0)).run Tryz.prog wB = .ok (.string sd) wB ∧ wB.cell? ⟨b, 0, none⟩ = some (.int .i64 i) ∧ wB.cell? ⟨b, 1, none⟩ = some (.int .i64 t) ∧ wB.cell? ⟨b, 2, none⟩ = some (.slice p n c) ∧ wB.cell? ⟨b, 3, none⟩ = some (.slice q m d) ∧ wB.cell? ⟨b, 4, none⟩ = some (.slice a b0 e0) ∧ Below W1.heap.size W1 wB)) := fun wA wB h hb => ⟨ac.out wB (keepSB (keepS hlt h.2 hb)), keepS hlt h.2 hb⟩
  have kb : Hid (∀ wA : World, ((convert 25 9 (.slice a b0 e0)).run Tryz.prog wA = .ok (.string sd) wA ∧ wA.cell? ⟨b, 0, none⟩ = some (.int .i64 i) ∧ wA.cell? ⟨b, 1, none⟩ = some (.int .i64 t) ∧ wA.cell? ⟨b, 2, none⟩ = some (.slice p n c) ∧ wA.cell? ⟨b, 3, none⟩ = some (.slice q m d) ∧ wA.cell? ⟨b, 4, none⟩ = some (.slice a b0 e0) ∧ Below W1.heap.size W1 wA) → Below W1.heap.size W1 wA) := fun wA h => keepSB h.2
  go_region_held3 (fun w' => (convert 25 9 (.slice a b0 e0)).run Tryz.prog w' = .ok (.string sd) w' ∧ w'.cell? ⟨b, 0, none⟩ = some (.int .i64 i) ∧ w'.cell? ⟨b, 1, none⟩ = some (.int .i64 t) ∧ w'.cell? ⟨b, 2, none⟩ = some (.slice p n c) ∧ w'.cell? ⟨b, 3, none⟩ = some (.slice q m d) ∧ w'.cell? ⟨b, 4, none⟩ = some (.slice a b0 e0) ∧ Below W1.heap.size W1 w')
    (first | exact s0 | assumption | exact kk.out _ _ (by assumption) (by assumption) | exact kk.out _ _ (by assumption) ((Below.refl _ _).alloc (Nat.le_refl _) _))
    (first
      | (go_at_call 151; (with_reducible refine Calls.mono (an _ _ hlit (kb.out _ (by assumption))) ?_); rintro e w2 ⟨v2, rfl, ho2, hb2⟩; obtain ⟨p2, q2, rfl, -, -, -⟩ := id ho2)
      | (go_at_call 150; (with_reducible refine Calls.mono (af _ _ (kb.out _ (by assumption)) ho2) ?_); rintro e w3 ⟨v3, rfl, ho3, hb3⟩; obtain ⟨p3, q3, rfl, -, -, -⟩ := id ho3)
      | (go_at_call 149; (with_reducible refine Calls.mono (at' _ _ ho3) ?_); rintro e w4 ⟨v4, rfl, ho4, hb4⟩))
  all_goals
    have hW : Below W1.heap.size W1 w4 := kb.out _ (by assumption)
    go_wp2
    go_ret
    exact ⟨_, rfl, by rw [HE.out]; exact ho4.has, by rw [Hbb.out]; exact hb1.trans (hW.mono hbz)⟩

set_option maxRecDepth 100000 in
set_option maxHeartbeats 1500000 in
theorem rbytesS_big (w : World) (x : SnapV) (hF : FitsS w x) (hf : FewF x.f.f) (hd : x.d.length ≤ 1048576) :
    Calls Tryz.prog 46 #[.agg x.arr] w (Outs w (snapB x.s)) := by
  have hb1 : Below w.heap.size w (w.alloc (.cells x.arr 27)) := (Below.refl _ _).alloc (Nat.le_refl _) _
  have k1 := rsnap_big (w.alloc (.cells x.arr 27)) (.slice none 0 0) [] x (Has.nil _) (hF.below hb1) hf hd (by simp)
  rw [List.nil_append] at k1
  generalize snapB x.s = bs at *
  obtain ⟨i, t, ⟨⟨p, n, c⟩, ⟨q, m, d⟩, f⟩, ⟨a, b, e⟩, dd⟩ := x
  unfold SnapV.arr at *
  dsimp only at *
  go_enter Tryz.func46, Tryz.ntmps46
  go_wp2_with fail
  refine k1.mono ?_
  rintro e w3 ⟨v3, rfl, ho3, hb3⟩
  go_wp2
  go_ret
  exact ⟨_, rfl, ho3, hb1.trans (hb3.mono hb1.size)⟩
theorem snapB_isB (s : Snap10) (h : IsB s.d) : IsB (snapB s) := by
  unfold snapB
  exact IsB.append (IsB.append (IsB.append (zigB_isB _) (zigB_isB _)) (confB_isB _)) (bytB_isB h)
end Go.Proofs.YthlelcmifolnfaaGreatDoor

namespace Go.Proofs.YthlelcmifolnfaaGreatDoor
open Go.RowKit
theorem there_box {w : World} {b : Nat} {a : Array Value} {t : TypeId} (h : w.heap[b]? = some (.cells a t (0, 0))) (o n : Nat) (hn : o + n ≤ a.size) : w.there b o n := by
  intro j hj
  refine ⟨?_, frozen9 h (o + j)⟩
  rw [box_cell h (o + j), Array.getElem?_eq_getElem (by omega)]
  rfl
theorem setCells_grown (b : Nat) : ∀ (vs : List Value) (o : Nat) (w : World), w.grownBy (w.setCells b o vs) (some b)
  | [], _, _ => ⟨rfl, rfl, rfl, Nat.le_refl _, fun _ _ _ => rfl⟩
  | v :: r, o, w => grown_trans (grown_set w b o v) (setCells_grown b r (o + 1) _)
theorem setCells_at {b : Nat} {t : TypeId} : ∀ (vs : List Value) (o : Nat) (w : World) (a : Array Value), w.heap[b]? = some (.cells a t (0, 0)) → o + vs.length ≤ a.size → ∃ c, (w.setCells b o vs).heap[b]? = some (.cells c t (0, 0)) ∧ c.toList = a.toList.take o ++ vs ++ a.toList.drop (o + vs.length)
  | [], o, w, a, h, _ => ⟨a, h, by simp⟩
  | v :: r, o, w, a, h, hl => by
    have ho : o < a.size := by simp at hl; omega
    obtain ⟨c, h1, h2⟩ := setCells_at r (o + 1) _ _ (set_block9 h o v ho) (by simp at hl ⊢; omega)
    refine ⟨c, h1, ?_⟩
    rw [h2, Array.toList_set, List.length_cons]
    have e1 : (a.toList.set o v).take (o + 1) = a.toList.take o ++ [v] := by
      rw [List.take_add_one, List.take_set_of_le (Nat.le_refl _), List.getElem?_set_self (by simpa using ho)]
      rfl
    have e2 : (a.toList.set o v).drop (o + 1 + r.length) = a.toList.drop (o + (r.length + 1)) := by
      rw [List.drop_set_of_lt (by omega), show o + 1 + r.length = o + (r.length + 1) by omega]
    rw [e1, e2]
    simp
theorem setCells_box {w : World} {b : Nat} {a : Array Value} {t : TypeId} (h : w.heap[b]? = some (.cells a t (0, 0))) (o : Nat) (vs : List Value) (c : Array Value) (hl : o + vs.length ≤ a.size) (hc : c.toList = a.toList.take o ++ vs ++ a.toList.drop (o + vs.length)) : (w.setCells b o vs).heap[b]? = some (.cells c t (0, 0)) := by
  obtain ⟨d, h1, h2⟩ := setCells_at vs o w a h hl
  have : c = d := Array.toList_inj.1 (hc.trans h2.symm)
  rw [this]
  exact h1
theorem setCells_below {B : Nat} {w0 : World} {b : Nat} (hb : B ≤ b) : ∀ (vs : List Value) (o : Nat) {w : World}, Below B w0 w → Below B w0 (w.setCells b o vs)
  | [], _, _, h => h
  | v :: r, o, _, h => setCells_below hb r (o + 1) (h.setCell (p := ⟨b, o, none⟩) hb v)

theorem ldS_execI (ro : Option Nat) (ρ : Operand → Value) (d : Option Tmp) (x : Operand) (t : TypeId) (p : String) (af : Array Edge) (g : Option (Nat × Bool)) (w : World) : (Oper.semAt ro ρ { dst := d, op := .load 27 x, type := t, pos := p, after := af, guard := g }).run Tryz.prog w = ((ldS (ρ x)).run Tryz.prog w).andThen fun v w' => .ok (.value v) w' := by
  rw [Oper.semAt_eq _ _ _ (by intro c h; cases h)]
  exact ldS_exec ρ d x t p af g w
theorem stS_execI (ro : Option Nat) (ρ : Operand → Value) (d : Option Tmp) (x y : Operand) (t : TypeId) (p : String) (af : Array Edge) (g : Option (Nat × Bool)) (w : World) : (Oper.semAt ro ρ { dst := d, op := .store 27 x y, type := t, pos := p, after := af, guard := g }).run Tryz.prog w = ((stS (ρ x) (ρ y)).run Tryz.prog w).andThen fun _ w' => .ok .skip w' := by
  rw [Oper.semAt_eq _ _ _ (by intro c h; cases h)]
  exact stS_exec ρ d x y t p af g w
theorem ldS_box (w : World) (b : Nat) (a : Array Value) (t : TypeId) (fr : Nat × Nat) (h : w.heap[b]? = some (.cells a t fr)) (hs : a.size = 5) : (ldS (.pointer (some ⟨b, 0, none⟩))).run Tryz.prog w = .ok (.agg a) w := by
  refine (run_loadAt_mid w b 0 27 a.toList _ (fun j v hj => ?_) Tryz.underlying27 rfl (by rw [Array.length_toList, hs]; kernel_rfl)).trans (by rw [Array.toArray_toList])
  rw [Nat.zero_add, box_cell h j, ← Array.getElem?_toList]
  exact hj
end Go.Proofs.YthlelcmifolnfaaGreatDoor
