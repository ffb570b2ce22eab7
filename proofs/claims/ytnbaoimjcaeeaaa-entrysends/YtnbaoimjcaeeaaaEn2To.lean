import Derived.Test.YtnbaoimjcaeeaaaEnMTo
import Derived.Test.YtnbaoimjcaeeaaaCmKTo
import Derived.Test.YtnbaoimjcaeeaaaEnVTo
/-
  Contracts: command.Bytes, corbelref09.Bytes.
-/
namespace Go.Proofs.Ytnbaoimjcaeeaaa
open Go.RowKit

def nums9 (c : Cmd9) : List Int := [c.k, c.s, c.q, c.lim]
def txts9 (c : Cmd9) : List ByteArray := [c.key, c.old, c.val, c.unt]
def zigsB (l : List Int) : List Int := (l.map zigB).flatten
def textsB (l : List ByteArray) : List Int := (l.map textB).flatten
theorem cmdB_parts (c : Cmd9) : cmdB c = zigsB (nums9 c) ++ textsB (txts9 c) := by simp [cmdB, zigsB, textsB, nums9, txts9]
theorem zigsB_snoc {l : List Int} {j : Nat} (h : j < l.length) : zigsB (l.take (j + 1)) = zigsB (l.take j) ++ numB (zigS (l.getD j 0)) := by
  rw [List.take_succ_eq_append_getElem h]
  unfold zigsB
  rw [List.map_append, List.flatten_append, List.getD_eq_getElem?_getD, List.getElem?_eq_getElem h]
  simp [zigB]
theorem textsB_snoc {l : List ByteArray} {j : Nat} (h : j < l.length) : textsB (l.take (j + 1)) = textsB (l.take j) ++ textB (l.getD j em9) := by
  rw [List.take_succ_eq_append_getElem h]
  unfold textsB
  rw [List.map_append, List.flatten_append, List.getD_eq_getElem?_getD, List.getElem?_eq_getElem h]
  simp
theorem zigsB_len : ∀ l : List Int, (zigsB l).length ≤ 9 * l.length
  | [] => by simp [zigsB]
  | a :: l => by
    have := zigsB_len l
    have h2 := zigB_le a
    rw [show zigsB (a :: l) = zigB a ++ zigsB l by simp [zigsB], List.length_append, List.length_cons]
    omega
theorem textsB_len : ∀ {l : List ByteArray} {m : Nat}, (∀ s ∈ l, s.size ≤ m) → (textsB l).length ≤ (m + 9) * l.length
  | [], _, _ => by simp [textsB]
  | a :: l, m, h => by
    have := textsB_len (l := l) (m := m) fun s hs => h s (List.mem_cons_of_mem _ hs)
    have h2 := textB_length a
    have h3 := h a List.mem_cons_self
    rw [show textsB (a :: l) = textB a ++ textsB l by simp [textsB], List.length_append, List.length_cons, Nat.mul_add]
    omega

set_option maxRecDepth 100000 in
set_option maxHeartbeats 1500000 in
theorem bytes20_any (c : Cmd9) (w : World) (hs : c.key.size ≤ 20000 ∧ c.old.size ≤ 20000 ∧ c.val.size ≤ 20000 ∧ c.unt.size ≤ 20000) :
    Calls Try.prog 72 #[.agg c.arr] w fun e w' => ∃ v, e = .returned v ∧ Owns w' w.heap.size 5 v (cmdB c) ∧ Below w.heap.size w w' := by
  have hB0 := Box9.new w c
  have HC : Hid (cmdB c = zigsB (nums9 c) ++ textsB (txts9 c)) := cmdB_parts c
  have HN : Hid ((nums9 c).length = 4) := rfl
  have HT : Hid ((txts9 c).length = 4) := rfl
  have HS : Hid (∀ s ∈ txts9 c, s.size ≤ 20000) := by
    intro s h
    simp only [txts9, List.mem_cons, List.not_mem_nil, or_false] at h
    rcases h with rfl | rfl | rfl | rfl
    · exact hs.1
    · exact hs.2.1
    · exact hs.2.2.1
    · exact hs.2.2.2
  have HA : ∀ (W : World) (R : Nat) (l : List Int), W.heap[R]? = some (.cells (l.map (Value.int .i64)).toArray 3 (0, 0)) → ∀ j, j < l.length → W.cell? ⟨R, j, none⟩ = some (.int .i64 (l.getD j 0)) := by
    intro W R l h j hj
    rw [cell_of_row _ R j _ 3 (0, 0) h]
    simp [List.getD_eq_getElem?_getD, hj]
  have HA2 : ∀ (W : World) (R : Nat) (l : List ByteArray), W.heap[R]? = some (.cells (l.map Value.string).toArray 9 (0, 0)) → ∀ j, j < l.length → W.cell? ⟨R, j, none⟩ = some (.string (l.getD j em9)) := by
    intro W R l h j hj
    rw [cell_of_row _ R j _ 9 (0, 0) h]
    simp [List.getD_eq_getElem?_getD, hj]
  have Hn : Hid (nums9 c = [c.k, c.s, c.q, c.lim]) := rfl
  have Ht : Hid (txts9 c = [c.key, c.old, c.val, c.unt]) := rfl
  generalize cmdB c = xs at *
  generalize nums9 c = ns at *
  generalize txts9 c = ts at *
  obtain ⟨k, s, q, key, old, val, unt, lim⟩ := c
  unfold Cmd9.arr at *
  dsimp only at *
  have hb2 := hB0.more (.cells #[.int .i64 k, .int .i64 s, .int .i64 q, .int .i64 lim] 3)
  have hr2 := heap_alloc_new (w.alloc (.cells #[.int .i64 k, .int .i64 s, .int .i64 q, .string key, .string old, .string val, .string unt, .int .i64 lim] 23)) (.cells #[.int .i64 k, .int .i64 s, .int .i64 q, .int .i64 lim] 3)
  rw [show (w.alloc (.cells #[.int .i64 k, .int .i64 s, .int .i64 q, .string key, .string old, .string val, .string unt, .int .i64 lim] 23)).heap.size = w.heap.size + 1 by simp] at hr2
  go_enter Try.func72, Try.ntmps72
  go_wp2
  generalize (w.alloc (.cells #[.int .i64 k, .int .i64 s, .int .i64 q, .string key, .string old, .string val, .string unt, .int .i64 lim] 23)).alloc (.cells #[.int .i64 k, .int .i64 s, .int .i64 q, .int .i64 lim] 3) = W2 at *
  have hc2 := HA W2 _ ns (by rw [Hn.out]; exact hr2)
  rw [HN.out] at hc2
  have hlt2 := (Array.getElem?_eq_some_iff.1 hr2).1
  have hw2 := hb2.2.1.size
  clear hB0 hr2 HA
  go_loopw [3, 18] (fun s3 s18 wr => ∃ (j : Nat) (u : Value), u = s3 ∧ j ≤ 4 ∧ s18 = .int .i64 (j : Nat) ∧ Owns wr w.heap.size 5 u (zigsB (ns.take j)) ∧ Below W2.heap.size W2 wr) (fun _ s18 _ => 4 - (intOf s18).toNat)
  case atStart => exact ⟨0, _, rfl, Nat.zero_le _, rfl, Owns.nil _ _ _, Below.refl _ _⟩
  case round =>
    obtain ⟨j, u, hu, hj, rfl, ho, hbr⟩ := hrel
    subst hu
    by_cases hlt : j < 4
    · have cj := (hbr.cell (p := ⟨w.heap.size + 1, j, none⟩) hlt2).trans (hc2 j hlt)
      have Hst := zigsB_snoc (l := ns) (j := j) (by rw [HN.out]; exact hlt)
      have HST : Hid (zigsB (ns.take (j + 1)) = zigsB (ns.take j) ++ numB (zigS (ns.getD j 0))) := Hst
      have hzl := zigsB_len (ns.take j)
      have htl : (ns.take j).length ≤ 4 := by rw [List.length_take]; omega
      clear Hst
      generalize ns.getD j 0 = n at *
      have hzz := zig_any n wr
      have hzb := zig_bd n
      have hpp := put_any u _ (zigS n) wr ho.has (by omega) hzb.1 hzb.2
      generalize zigS n = z at *
      have hbz := hbr.size
      go_wp2_with fail
      refine same_mono hzz ?_
      go_wp2_with fail
      refine hpp.mono ?_
      rintro e w3 ⟨v3, rfl, ho3, hb3⟩
      clear hzz hpp
      go_wp2
      go_roundw
      case rel => exact ⟨j + 1, _, rfl, by omega, by go_num, by rw [HST.out]; exact ho3.mono (by omega), hbr.trans (hb3.mono hbz)⟩
      case measure => simp only [intOf]; omega
    · rw [List.take_of_length_le (by rw [HN.out]; omega)] at ho
      have hb3 := hb2.below hbr
      obtain ⟨c0, c1, c2, c3, c4, c5, c6, c7⟩ := hb3.cells
      have hlb := hb3.1.lt
      have hb4 := hb3.more (.cells #[.string key, .string old, .string val, .string unt] 9)
      have hr4 := heap_alloc_new wr (.cells #[.string key, .string old, .string val, .string unt] 9)
      have ho4 : Owns (wr.alloc (.cells #[.string key, .string old, .string val, .string unt] 9)) w.heap.size 5 u (zigsB ns) := World.ownsRow.alloc ho _
      have hzl := zigsB_len ns
      have htl := HN.out
      clear hc2 hb2 hb3 ho hlt2 hbr
      go_wp2
      generalize wr.alloc (.cells #[.string key, .string old, .string val, .string unt] 9) = W4 at *
      have hc4 := HA2 W4 _ ts (by rw [Ht.out]; exact hr4)
      rw [HT.out] at hc4
      have hlt4 := (Array.getElem?_eq_some_iff.1 hr4).1
      have hw4 := hb4.2.1.size
      clear hr4 HA2 c0 c1 c2 c3 c4 c5 c6 c7
      generalize wr.heap.size = R at *
      go_loopw [3, 37] (fun s3 s37 wr => ∃ (i : Nat) (v : Value), v = s3 ∧ i ≤ 4 ∧ s37 = .int .i64 (i : Nat) ∧ Owns wr w.heap.size 5 v (zigsB ns ++ textsB (ts.take i)) ∧ Below W4.heap.size W4 wr) (fun _ s37 _ => 4 - (intOf s37).toNat)
      case atStart => exact ⟨0, _, rfl, Nat.zero_le _, rfl, by rw [show textsB (ts.take 0) = [] from rfl, List.append_nil]; exact ho4, Below.refl _ _⟩
      case round =>
        clear ho4
        obtain ⟨i, v, hv, hi, rfl, ho2, hbr2⟩ := hrel
        subst hv
        by_cases hlt2 : i < 4
        · have cj := (hbr2.cell (p := ⟨R, i, none⟩) hlt4).trans (hc4 i hlt2)
          have Hst := textsB_snoc (l := ts) (j := i) (by rw [HT.out]; exact hlt2)
          have HST : Hid (textsB (ts.take (i + 1)) = textsB (ts.take i) ++ textB (ts.getD i em9)) := Hst
          have hxl := textsB_len (l := ts.take i) (m := 20000) fun s h => HS.out s (List.mem_of_mem_take h)
          have hxt : (ts.take i).length ≤ 4 := by rw [List.length_take]; omega
          have hsz : (ts.getD i em9).size ≤ 20000 := by
            refine HS.out _ ?_
            rw [List.getD_eq_getElem?_getD, List.getElem?_eq_getElem (by rw [HT.out]; exact hlt2)]
            exact List.getElem_mem _
          clear Hst
          generalize ts.getD i em9 = t at *
          have hpp := putText_any v _ t wr ho2.has (by rw [List.length_append]; omega) (by omega)
          have hbz2 := hbr2.size
          go_wp2_with fail
          refine hpp.mono ?_
          rintro e w3 ⟨v3, rfl, ho3, hb3⟩
          clear hpp
          go_wp2
          go_roundw
          case rel => exact ⟨i + 1, _, rfl, by omega, by go_num, by rw [HST.out, ← List.append_assoc]; exact ho3.mono (by omega), hbr2.trans (hb3.mono hbz2)⟩
          case measure => simp only [intOf]; omega
        · rw [List.take_of_length_le (by rw [HT.out]; omega)] at ho2
          have hb5 := hb4.below hbr2
          clear hc4 hb4
          go_wp2
          go_ret
          exact ⟨_, rfl, by rw [HC.out]; exact ho2, hb5.2.1⟩

theorem bytes_any (c : Cmd9) (w : World) (hs : c.key.size ≤ 5000 ∧ c.old.size ≤ 5000 ∧ c.val.size ≤ 5000 ∧ c.unt.size ≤ 5000) :
    Calls Try.prog 72 #[.agg c.arr] w fun e w' => ∃ v, e = .returned v ∧ Owns w' w.heap.size 5 v (cmdB c) ∧ Below w.heap.size w w' :=
  bytes20_any c w (by omega)
end Go.Proofs.Ytnbaoimjcaeeaaa

/-
  Contracts: entry.putNumber, putNumbers, putText, putList at ints, putConf, putEntry, putSnap; Bytes, HardBytes, SnapBytes.
-/
namespace Go.Proofs.Ytnbaoimjcaeeaaa
open Go.RowKit

/-- Blocks that are no bytes are as they were. -/
def Kin8 (w w' : World) : Prop := ∀ (k : Nat) (c : Array Value) (t : TypeId) (fr : Nat × Nat), w.heap[k]? = some (.cells c t fr) → t ≠ 5 → w'.heap[k]? = some (.cells c t fr)
theorem Kin8.refl (w : World) : Kin8 w w := fun _ _ _ _ h _ => h
theorem Kin8.trans {a b c : World} (h : Kin8 a b) (k : Kin8 b c) : Kin8 a c := fun i x t fr hi ht => k i x t fr (h i x t fr hi ht) ht
theorem Kin8.below {w w' : World} (h : Below w.heap.size w w') : Kin8 w w' := fun k _ _ _ hk _ => (h.block k (Array.getElem?_eq_some_iff.1 hk).1).trans hk
theorem Kin8.grown {w w' : World} {B : Nat} {v : Value} {xs : List Int} (h : Owns w B 5 v xs) (hg : w.grownBy w' v.ownBlock) : Kin8 w w' := by
  intro k c t fr hk ht
  refine (hg.block k (Array.getElem?_eq_some_iff.1 hk).1 ?_).trans hk
  rcases h.2 with ⟨rfl, _⟩ | ⟨g, cap, cur, rfl, _, hgb, _⟩
  · intro e; cases e
  · intro e
    have e' : g = k := (Option.some.inj e).symm
    subst e'
    rw [hgb] at hk
    have := Option.some.inj hk
    simp only [Obj.cells.injEq] at this
    exact ht this.2.1.symm

/-- A row of bytes that the call made, beyond all that was there in w0. -/
structure Put10 (w0 w : World) (v : Value) (xs : List Int) : Prop where
  own : Owns w w0.heap.size 5 v xs
  bel : Below w0.heap.size w0 w
theorem Put10.nil (w : World) : Put10 w w (.slice none 0 0) [] := ⟨Owns.nil _ _ _, Below.refl _ _⟩
theorem Put10.more {w0 w w' : World} {v : Value} {xs : List Int} (h : Put10 w0 w v xs) (hb : Below w.heap.size w w') : Put10 w0 w' v xs := ⟨h.own.below hb (Nat.le_refl _), h.bel.trans (hb.mono h.bel.size)⟩
/-- What each of these calls leaves. -/
def Puts (w0 w : World) (ys : List Int) (e : Ending) (w' : World) : Prop := ∃ v', e = .returned v' ∧ Put10 w0 w' v' ys ∧ Kin8 w w'

set_option maxRecDepth 100000 in
set_option maxHeartbeats 1500000 in
theorem putNumber_any (w0 w : World) (v : Value) (xs : List Int) (n : Int) (h : Put10 w0 w v xs) (hl : xs.length ≤ 1073741824) :
    Calls Try.prog 62 #[v, .int .i64 n] w (Puts w0 w (xs ++ zigB n)) := by
  obtain ⟨i0, hi, hz0, hz1, hz2⟩ := info_parts info8c
  have k1 := zig_any n w
  have hzb := zig_bd n
  have k2 := put_any (.slice none 0 0) [] (zigS n) w (Has.nil w) (by simp) hzb.1 hzb.2
  have HZ : Hid (zigB n = numB (zigS n)) := rfl
  have hnl := numB_le (zigS n)
  generalize zigS n = z at *
  go_enter Try.func62, Try.ntmps62
  go_wp2_with fail
  refine same_mono k1 ?_
  go_wp2_with fail
  refine k2.mono ?_
  rintro e w1 ⟨v1, rfl, ho1, hb1⟩
  have h1 := h.more hb1
  have hsz := h1.bel.size
  rw [List.nil_append] at ho1
  clear k1 k2 h
  go_wp2_with (at_builtin; refine ap_slice_g _ rfl _ _ 34 rfl w0.heap.size 5 i0 Try.underlying34 hi hz0 hz1 hz2 _ xs (numB z) rfl (by exact ho1.has) (by exact h1.own) (by omega) (by omega) (by exact hsz) ?_; intro v2 w2 ho2 hg2)
  go_ret
  refine ⟨_, rfl, ⟨by rw [HZ.out]; exact ho2, h1.bel.trans (below_grown h1.own hsz hg2)⟩, (Kin8.below hb1).trans (Kin8.grown h1.own hg2)⟩

theorem numsB_snoc {l : List Int} {j : Nat} (h : j < l.length) : numsB (l.take (j + 1)) = numsB (l.take j) ++ zigB (l.getD j 0) := by
  rw [List.take_succ_eq_append_getElem h, numsB_append, List.getD_eq_getElem?_getD, List.getElem?_eq_getElem h]
  simp [numsB]
theorem numsB_take (l : List Int) (j : Nat) : (numsB (l.take j)).length ≤ 9 * l.length := by
  have h1 := numsB_len (l.take j)
  have h2 : (l.take j).length ≤ l.length := by rw [List.length_take]; omega
  omega

set_option maxRecDepth 100000 in
set_option maxHeartbeats 1500000 in
theorem putNumbers_any (w0 w : World) (v : Value) (xs ns : List Int) (R n : Nat) (h : Put10 w0 w v xs) (hR : w.heap[R]? = some (.cells (ns.map (Value.int .i64)).toArray 3 (0, 0))) (hn : ns.length = n) (hn2 : n ≤ 100) (hl : xs.length ≤ 1073740000) :
    Calls Try.prog 46 #[v, .slice (some ⟨R, 0, none⟩) n n] w (Puts w0 w (xs ++ numsB ns)) := by
  have HN : Hid (ns.length = n) := hn
  have HR : Hid (w.heap[R]? = some (.cells (ns.map (Value.int .i64)).toArray 3 (0, 0))) := hR
  clear hR hn
  go_enter Try.func46, Try.ntmps46
  go_wp2
  go_loopw [0, 9] (fun s0 s9 wr => ∃ (j : Nat) (u : Value), u = s0 ∧ j ≤ n ∧ s9 = .int .i64 (j : Nat) ∧ Put10 w0 wr u (xs ++ numsB (ns.take j)) ∧ Kin8 w wr) (fun _ s9 _ => n - (intOf s9).toNat)
  case atStart => exact ⟨0, _, rfl, Nat.zero_le _, rfl, by rw [List.take_zero, show numsB [] = [] from rfl, List.append_nil]; exact h, Kin8.refl _⟩
  case round =>
    clear h
    obtain ⟨j, u, hu, hj, rfl, hP, hk⟩ := hrel
    subst hu
    by_cases hlt : j < n
    · have hR := hk _ _ _ _ HR.out (by decide)
      have hb := box_lt hR
      have hc := box_cell hR j
      have HS : Hid (numsB (ns.take (j + 1)) = numsB (ns.take j) ++ zigB (ns.getD j 0)) := numsB_snoc (by rw [HN.out]; exact hlt)
      rw [show (ns.map (Value.int .i64)).toArray[j]? = some (.int .i64 (ns.getD j 0)) by simp [List.getD_eq_getElem?_getD, List.getElem?_eq_getElem (show j < ns.length by rw [HN.out]; exact hlt)]] at hc
      have hlen := numsB_take ns j
      rw [HN.out] at hlen
      generalize ns.getD j 0 = x at *
      have kp := putNumber_any w0 wr u _ x hP (by rw [List.length_append]; omega)
      clear hR hP
      go_wp2_with fail
      refine kp.mono ?_
      rintro e w3 ⟨v3, rfl, hP3, hk3⟩
      clear kp
      go_wp2
      go_roundw
      case rel => exact ⟨j + 1, _, rfl, by omega, by go_num, by rw [HS.out, ← List.append_assoc]; exact hP3, hk.trans hk3⟩
      case measure => simp only [intOf]; omega
    · rw [List.take_of_length_le (by rw [HN.out]; omega)] at hP
      go_wp2
      go_ret
      exact ⟨_, rfl, hP, hk⟩

theorem strB_of {ys : List Int} (h : IsB ys) : strB (strOfNums ys) = ys := by
  unfold strB
  rw [strOfNums_data, List.map_map]
  conv => rhs; rw [← List.map_id ys]
  refine List.map_congr_left fun a ha => ?_
  have := h a ha
  simp
  omega
theorem textB_of {ys : List Int} (h : IsB ys) : textB (strOfNums ys) = bytB ys := by
  unfold textB bytB
  rw [strB_of h, ← strB_length, strB_of h]
theorem size_of {ys : List Int} (h : IsB ys) : (strOfNums ys).size = ys.length := by rw [← strB_length, strB_of h]

set_option maxRecDepth 100000 in
set_option maxHeartbeats 1500000 in
theorem putTextE_any (w0 w : World) (v t : Value) (xs ys : List Int) (h : Put10 w0 w v xs) (ht : Has w t ys) (hB : IsB ys) (hl : xs.length ≤ 1073741824) (hly : ys.length ≤ 1073741824) :
    Calls Try.prog 71 #[v, t] w (Puts w0 w (xs ++ bytB ys)) := by
  obtain ⟨i0, hi, hz0, hz1, hz2⟩ := info_parts info8c
  have c1 := ht.conv (P := Try.prog) 34 5 9 Try.underlying34 Try.underlying5 Try.underlying9
  have k2 := putText_any (.slice none 0 0) [] (strOfNums ys) w (Has.nil w) (by simp) (by rw [size_of hB]; exact hly)
  rw [textB_of hB, List.nil_append] at k2
  have hbl : (bytB ys).length ≤ 1073741900 := by
    unfold bytB
    have := numB_le (ys.length : Int)
    rw [List.length_append]
    omega
  generalize bytB ys = zs at *
  generalize strOfNums ys = s at *
  obtain ⟨p, c, rfl, -, -, -⟩ := id ht
  clear ht hB
  go_enter Try.func71, Try.ntmps71
  go_wp2_with fail
  refine k2.mono ?_
  rintro e w1 ⟨v1, rfl, ho1, hb1⟩
  have h1 := h.more hb1
  have hsz := h1.bel.size
  clear k2 h
  go_wp2_with (at_builtin; refine ap_slice_g _ rfl _ _ 34 rfl w0.heap.size 5 i0 Try.underlying34 hi hz0 hz1 hz2 _ xs zs rfl (by exact ho1.has) (by exact h1.own) (by omega) (by omega) (by exact hsz) ?_; intro v2 w2 ho2 hg2)
  go_ret
  exact ⟨_, rfl, ⟨ho2, h1.bel.trans (below_grown h1.own hsz hg2)⟩, (Kin8.below hb1).trans (Kin8.grown h1.own hg2)⟩

set_option maxRecDepth 100000 in
set_option maxHeartbeats 1500000 in
theorem putListI_any (w0 w : World) (v : Value) (xs ns : List Int) (p : Option Addr) (n c : Nat) (h : Put10 w0 w v xs) (hN : HasI w0 (.slice p n c) ns) (hn2 : n ≤ 1000) (hl : xs.length ≤ 1073700000) :
    Calls Try.prog 105 #[v, .slice p n c, .func (.func 62) #[] #[]] w (Puts w0 w (xs ++ listB ns)) := by
  obtain ⟨i0, hi, hz0, hz1, hz2⟩ := info_parts info8c
  have HN : Hid (ns.length = n) := hN.len.1
  have HX : Hid (HasI w0 (.slice p n c) ns) := hN
  have HL : Hid (listB ns = numB (n : Int) ++ numsB ns) := by rw [Hid, listB, HN.out]
  clear hN
  have k2 := put_any (.slice none 0 0) [] (n : Int) w (Has.nil w) (by simp) (by omega) (by omega)
  have hnl := numB_le (n : Int)
  go_enter Try.func105, Try.ntmps105
  go_wp2_with fail
  refine k2.mono ?_
  rintro e w1 ⟨v1, rfl, ho1, hb1⟩
  have h1 := h.more hb1
  have hsz := h1.bel.size
  rw [List.nil_append] at ho1
  clear k2 h
  go_wp2_with (at_builtin; refine ap_slice_g _ rfl _ _ 34 rfl w0.heap.size 5 i0 Try.underlying34 hi hz0 hz1 hz2 _ xs (numB (n : Int)) rfl (by exact ho1.has) (by exact h1.own) (by omega) (by omega) (by exact hsz) ?_; intro v2 w2 ho2 hg2)
  have hP2 : Put10 w0 w2 v2 (xs ++ numB (n : Int)) := ⟨ho2, h1.bel.trans (below_grown h1.own hsz hg2)⟩
  have hk2 : Kin8 w w2 := (Kin8.below hb1).trans (Kin8.grown h1.own hg2)
  clear h1 hsz ho1 hb1 ho2 hg2
  go_loopw [0, 17] (fun s0 s17 wr => ∃ (j : Nat) (u : Value), u = s0 ∧ j ≤ n ∧ s17 = .int .i64 (j : Nat) ∧ Put10 w0 wr u (xs ++ numB (n : Int) ++ numsB (ns.take j)) ∧ Kin8 w wr) (fun _ s17 _ => n - (intOf s17).toNat)
  case atStart => exact ⟨0, _, rfl, Nat.zero_le _, rfl, by rw [List.take_zero, show numsB [] = [] from rfl, List.append_nil]; exact hP2, hk2⟩
  case round =>
    clear hP2 hk2
    obtain ⟨j, u, hu, hj, rfl, hP, hk⟩ := hrel
    subst hu
    by_cases hlt : j < n
    · obtain ⟨b, o, rfl, hb0, hc0⟩ := HX.out.at hlt
      have hc := (hP.bel.cell (p := ⟨b, o + j, none⟩) hb0).trans hc0
      have hb : b < wr.heap.size := Nat.lt_of_lt_of_le hb0 hP.bel.size
      have HS : Hid (numsB (ns.take (j + 1)) = numsB (ns.take j) ++ zigB (ns.getD j 0)) := numsB_snoc (by rw [HN.out]; exact hlt)
      have hlen := numsB_take ns j
      rw [HN.out] at hlen
      generalize ns.getD j 0 = x at *
      have kp := putNumber_any w0 wr u _ x hP (by rw [List.length_append, List.length_append]; omega)
      clear hP hc0 hb0
      go_wp2_with fail
      refine kp.mono ?_
      rintro e w3 ⟨v3, rfl, hP3, hk3⟩
      clear kp
      go_wp2
      go_roundw
      case rel => exact ⟨j + 1, _, rfl, by omega, by go_num, by rw [HS.out, ← List.append_assoc]; exact hP3, hk.trans hk3⟩
      case measure => simp only [intOf]; omega
    · rw [List.take_of_length_le (by rw [HN.out]; omega)] at hP
      go_wp2
      go_ret
      exact ⟨_, rfl, by rw [HL.out, ← List.append_assoc]; exact hP, hk⟩
end Go.Proofs.Ytnbaoimjcaeeaaa
