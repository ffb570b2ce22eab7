/-
  Contracts: entry.putNumber, putNumbers, putText, putList at ints, putConf, putEntry, putSnap; Bytes, HardBytes, SnapBytes.
-/
import Derived.Test.YtnbaoimjcaeeaaaEnV
import Derived.Test.YtnbaoimjcaeeaaaCmF
namespace Go.Proofs.Ytnbaoimjcaeeaaa
open Go.RowKit

/-- Blocks that are no bytes are as they were. -/
def Kin8 (w w' : World) : Prop := ∀ (k : Nat) (c : Array Value) (t : TypeId) (fr : Nat × Nat), w.heap[k]? = some (.cells c t fr) → t ≠ 5 → w'.heap[k]? = some (.cells c t fr)
theorem Kin8.refl (w : World) : Kin8 w w := fun _ _ _ _ h _ => h
theorem Kin8.trans {a b c : World} (h : Kin8 a b) (k : Kin8 b c) : Kin8 a c := fun i x t fr hi ht => k i x t fr (h i x t fr hi ht) ht
theorem Kin8.below {w w' : World} (h : Below w.heap.size w w') : Kin8 w w' := fun k _ _ _ hk _ => (h.block k (Array.getElem?_eq_some_iff.1 hk).1).trans hk
theorem Kin8.grown {w w' : World} {B : Nat} {v : Value} {xs : List Int} (h : Owns w B 5 v xs) (hg : w.grownBy w' v.ownBlock) : Kin8 w w' := by
  intro k c t fr hk ht
  refine (hg.block k (Array.getElem?_eq_some_iff.1 hk).1 ?_).trans hk
  rcases h.2 with ⟨rfl, _⟩ | ⟨g, cap, cur, rfl, _, hgb, _⟩
  · intro e; cases e
  · intro e
    have e' : g = k := (Option.some.inj e).symm
    subst e'
    rw [hgb] at hk
    have := Option.some.inj hk
    simp only [Obj.cells.injEq] at this
    exact ht this.2.1.symm

/-- A row of bytes that the call made, beyond all that was there in w0. -/
structure Put10 (w0 w : World) (v : Value) (xs : List Int) : Prop where
  own : Owns w w0.heap.size 5 v xs
  bel : Below w0.heap.size w0 w
theorem Put10.nil (w : World) : Put10 w w (.slice none 0 0) [] := ⟨Owns.nil _ _ _, Below.refl _ _⟩
theorem Put10.more {w0 w w' : World} {v : Value} {xs : List Int} (h : Put10 w0 w v xs) (hb : Below w.heap.size w w') : Put10 w0 w' v xs := ⟨h.own.below hb (Nat.le_refl _), h.bel.trans (hb.mono h.bel.size)⟩
/-- What each of these calls leaves. -/
def Puts (w0 w : World) (ys : List Int) (e : Ending) (w' : World) : Prop := ∃ v', e = .returned v' ∧ Put10 w0 w' v' ys ∧ Kin8 w w'

set_option maxRecDepth 100000 in
set_option maxHeartbeats 1500000 in
theorem putNumber_any (w0 w : World) (v : Value) (xs : List Int) (n : Int) (h : Put10 w0 w v xs) (hl : xs.length ≤ 1073741824) :
    Calls Try.prog 62 #[v, .int .i64 n] w (Puts w0 w (xs ++ zigB n)) := by
  obtain ⟨i0, hi, hz0, hz1, hz2⟩ := info_parts info8c
  have k1 := zig_any n w
  have hzb := zig_bd n
  have k2 := put_any (.slice none 0 0) [] (zigS n) w (Has.nil w) (by simp) hzb.1 hzb.2
  have HZ : Hid (zigB n = numB (zigS n)) := rfl
  have hnl := numB_le (zigS n)
  generalize zigS n = z at *
  go_enter Try.func62, Try.ntmps62
  go_wp2_with fail
  refine same_mono k1 ?_
  go_wp2_with fail
  refine k2.mono ?_
  rintro e w1 ⟨v1, rfl, ho1, hb1⟩
  have h1 := h.more hb1
  have hsz := h1.bel.size
  rw [List.nil_append] at ho1
  clear k1 k2 h
  go_wp2_with (at_builtin; refine ap_slice_g _ rfl _ _ 34 rfl w0.heap.size 5 i0 Try.underlying34 hi hz0 hz1 hz2 _ xs (numB z) rfl (by exact ho1.has) (by exact h1.own) (by omega) (by omega) (by exact hsz) ?_; intro v2 w2 ho2 hg2)
  go_ret
  refine ⟨_, rfl, ⟨by rw [HZ.out]; exact ho2, h1.bel.trans (below_grown h1.own hsz hg2)⟩, (Kin8.below hb1).trans (Kin8.grown h1.own hg2)⟩

theorem numsB_snoc {l : List Int} {j : Nat} (h : j < l.length) : numsB (l.take (j + 1)) = numsB (l.take j) ++ zigB (l.getD j 0) := by
  rw [List.take_succ_eq_append_getElem h, numsB_append, List.getD_eq_getElem?_getD, List.getElem?_eq_getElem h]
  simp [numsB]
theorem numsB_take (l : List Int) (j : Nat) : (numsB (l.take j)).length ≤ 9 * l.length := by
  have h1 := numsB_len (l.take j)
  have h2 : (l.take j).length ≤ l.length := by rw [List.length_take]; omega
  omega

set_option maxRecDepth 100000 in
set_option maxHeartbeats 1500000 in
theorem putNumbers_any (w0 w : World) (v : Value) (xs ns : List Int) (R n : Nat) (h : Put10 w0 w v xs) (hR : w.heap[R]? = some (.cells (ns.map (Value.int .i64)).toArray 3 (0, 0))) (hn : ns.length = n) (hn2 : n ≤ 100) (hl : xs.length ≤ 1073740000) :
    Calls Try.prog 46 #[v, .slice (some ⟨R, 0, none⟩) n n] w (Puts w0 w (xs ++ numsB ns)) := by
  have HN : Hid (ns.length = n) := hn
  have HR : Hid (w.heap[R]? = some (.cells (ns.map (Value.int .i64)).toArray 3 (0, 0))) := hR
  clear hR hn
  go_enter Try.func46, Try.ntmps46
  go_wp2
  go_loopw [0, 9] (fun s0 s9 wr => ∃ (j : Nat) (u : Value), u = s0 ∧ j ≤ n ∧ s9 = .int .i64 (j : Nat) ∧ Put10 w0 wr u (xs ++ numsB (ns.take j)) ∧ Kin8 w wr) (fun _ s9 _ => n - (intOf s9).toNat)
  case atStart => exact ⟨0, _, rfl, Nat.zero_le _, rfl, by rw [List.take_zero, show numsB [] = [] from rfl, List.append_nil]; exact h, Kin8.refl _⟩
  case round =>
    clear h
    obtain ⟨j, u, hu, hj, rfl, hP, hk⟩ := hrel
    subst hu
    by_cases hlt : j < n
    · have hR := hk _ _ _ _ HR.out (by decide)
      have hb := box_lt hR
      have hc := box_cell hR j
      have HS : Hid (numsB (ns.take (j + 1)) = numsB (ns.take j) ++ zigB (ns.getD j 0)) := numsB_snoc (by rw [HN.out]; exact hlt)
      rw [show (ns.map (Value.int .i64)).toArray[j]? = some (.int .i64 (ns.getD j 0)) by simp [List.getD_eq_getElem?_getD, List.getElem?_eq_getElem (show j < ns.length by rw [HN.out]; exact hlt)]] at hc
      have hlen := numsB_take ns j
      rw [HN.out] at hlen
      generalize ns.getD j 0 = x at *
      have kp := putNumber_any w0 wr u _ x hP (by rw [List.length_append]; omega)
      clear hR hP
      go_wp2_with fail
      refine kp.mono ?_
      rintro e w3 ⟨v3, rfl, hP3, hk3⟩
      clear kp
      go_wp2
      go_roundw
      case rel => exact ⟨j + 1, _, rfl, by omega, by go_num, by rw [HS.out, ← List.append_assoc]; exact hP3, hk.trans hk3⟩
      case measure => simp only [intOf]; omega
    · rw [List.take_of_length_le (by rw [HN.out]; omega)] at hP
      go_wp2
      go_ret
      exact ⟨_, rfl, hP, hk⟩

theorem strB_of {ys : List Int} (h : IsB ys) : strB (strOfNums ys) = ys := by
  unfold strB
  rw [strOfNums_data, List.map_map]
  conv => rhs; rw [← List.map_id ys]
  refine List.map_congr_left fun a ha => ?_
  have := h a ha
  simp
  omega
theorem textB_of {ys : List Int} (h : IsB ys) : textB (strOfNums ys) = bytB ys := by
  unfold textB bytB
  rw [strB_of h, ← strB_length, strB_of h]
theorem size_of {ys : List Int} (h : IsB ys) : (strOfNums ys).size = ys.length := by rw [← strB_length, strB_of h]

set_option maxRecDepth 100000 in
set_option maxHeartbeats 1500000 in
theorem putTextE_any (w0 w : World) (v t : Value) (xs ys : List Int) (h : Put10 w0 w v xs) (ht : Has w t ys) (hB : IsB ys) (hl : xs.length ≤ 1073741824) (hly : ys.length ≤ 1073741824) :
    Calls Try.prog 71 #[v, t] w (Puts w0 w (xs ++ bytB ys)) := by
  obtain ⟨i0, hi, hz0, hz1, hz2⟩ := info_parts info8c
  have c1 := ht.conv (P := Try.prog) 34 5 9 Try.underlying34 Try.underlying5 Try.underlying9
  have k2 := putText_any (.slice none 0 0) [] (strOfNums ys) w (Has.nil w) (by simp) (by rw [size_of hB]; exact hly)
  rw [textB_of hB, List.nil_append] at k2
  have hbl : (bytB ys).length ≤ 1073741900 := by
    unfold bytB
    have := numB_le (ys.length : Int)
    rw [List.length_append]
    omega
  generalize bytB ys = zs at *
  generalize strOfNums ys = s at *
  obtain ⟨p, c, rfl, -, -, -⟩ := id ht
  clear ht hB
  go_enter Try.func71, Try.ntmps71
  go_wp2_with fail
  refine k2.mono ?_
  rintro e w1 ⟨v1, rfl, ho1, hb1⟩
  have h1 := h.more hb1
  have hsz := h1.bel.size
  clear k2 h
  go_wp2_with (at_builtin; refine ap_slice_g _ rfl _ _ 34 rfl w0.heap.size 5 i0 Try.underlying34 hi hz0 hz1 hz2 _ xs zs rfl (by exact ho1.has) (by exact h1.own) (by omega) (by omega) (by exact hsz) ?_; intro v2 w2 ho2 hg2)
  go_ret
  exact ⟨_, rfl, ⟨ho2, h1.bel.trans (below_grown h1.own hsz hg2)⟩, (Kin8.below hb1).trans (Kin8.grown h1.own hg2)⟩

set_option maxRecDepth 100000 in
set_option maxHeartbeats 1500000 in
theorem putListI_any (w0 w : World) (v : Value) (xs ns : List Int) (p : Option Addr) (n c : Nat) (h : Put10 w0 w v xs) (hN : HasI w0 (.slice p n c) ns) (hn2 : n ≤ 1000) (hl : xs.length ≤ 1073700000) :
    Calls Try.prog 105 #[v, .slice p n c, .func (.func 62) #[] #[]] w (Puts w0 w (xs ++ listB ns)) := by
  obtain ⟨i0, hi, hz0, hz1, hz2⟩ := info_parts info8c
  have HN : Hid (ns.length = n) := hN.len.1
  have HX : Hid (HasI w0 (.slice p n c) ns) := hN
  have HL : Hid (listB ns = numB (n : Int) ++ numsB ns) := by rw [Hid, listB, HN.out]
  clear hN
  have k2 := put_any (.slice none 0 0) [] (n : Int) w (Has.nil w) (by simp) (by omega) (by omega)
  have hnl := numB_le (n : Int)
  go_enter Try.func105, Try.ntmps105
  go_wp2_with fail
  refine k2.mono ?_
  rintro e w1 ⟨v1, rfl, ho1, hb1⟩
  have h1 := h.more hb1
  have hsz := h1.bel.size
  rw [List.nil_append] at ho1
  clear k2 h
  go_wp2_with (at_builtin; refine ap_slice_g _ rfl _ _ 34 rfl w0.heap.size 5 i0 Try.underlying34 hi hz0 hz1 hz2 _ xs (numB (n : Int)) rfl (by exact ho1.has) (by exact h1.own) (by omega) (by omega) (by exact hsz) ?_; intro v2 w2 ho2 hg2)
  have hP2 : Put10 w0 w2 v2 (xs ++ numB (n : Int)) := ⟨ho2, h1.bel.trans (below_grown h1.own hsz hg2)⟩
  have hk2 : Kin8 w w2 := (Kin8.below hb1).trans (Kin8.grown h1.own hg2)
  clear h1 hsz ho1 hb1 ho2 hg2
  go_loopw [0, 17] (fun s0 s17 wr => ∃ (j : Nat) (u : Value), u = s0 ∧ j ≤ n ∧ s17 = .int .i64 (j : Nat) ∧ Put10 w0 wr u (xs ++ numB (n : Int) ++ numsB (ns.take j)) ∧ Kin8 w wr) (fun _ s17 _ => n - (intOf s17).toNat)
  case atStart => exact ⟨0, _, rfl, Nat.zero_le _, rfl, by rw [List.take_zero, show numsB [] = [] from rfl, List.append_nil]; exact hP2, hk2⟩
  case round =>
    clear hP2 hk2
    obtain ⟨j, u, hu, hj, rfl, hP, hk⟩ := hrel
    subst hu
    by_cases hlt : j < n
    · obtain ⟨b, o, rfl, hb0, hc0⟩ := HX.out.at hlt
      have hc := (hP.bel.cell (p := ⟨b, o + j, none⟩) hb0).trans hc0
      have hb : b < wr.heap.size := Nat.lt_of_lt_of_le hb0 hP.bel.size
      have HS : Hid (numsB (ns.take (j + 1)) = numsB (ns.take j) ++ zigB (ns.getD j 0)) := numsB_snoc (by rw [HN.out]; exact hlt)
      have hlen := numsB_take ns j
      rw [HN.out] at hlen
      generalize ns.getD j 0 = x at *
      have kp := putNumber_any w0 wr u _ x hP (by rw [List.length_append, List.length_append]; omega)
      clear hP hc0 hb0
      go_wp2_with fail
      refine kp.mono ?_
      rintro e w3 ⟨v3, rfl, hP3, hk3⟩
      clear kp
      go_wp2
      go_roundw
      case rel => exact ⟨j + 1, _, rfl, by omega, by go_num, by rw [HS.out, ← List.append_assoc]; exact hP3, hk.trans hk3⟩
      case measure => simp only [intOf]; omega
    · rw [List.take_of_length_le (by rw [HN.out]; omega)] at hP
      go_wp2
      go_ret
      exact ⟨_, rfl, by rw [HL.out, ← List.append_assoc]; exact hP, hk⟩
end Go.Proofs.Ytnbaoimjcaeeaaa
