/-
  Contracts: corbelref01.Same, Texts, Lend, Kept, over this seat's words.
-/
import Derived.Test.YtefgnehahedckaaDkX
import Derived.BigQuiet
import Derived.WalkSmall
namespace Go.Proofs.Ytefgnehahedckaa
open Go.RowKit

theorem below_drewN8 {B : Nat} {a w : World} (h : Below B a w) (m : Nat) : Below B a (w.drewN m) := ⟨h.os, h.tape, h.output, h.size, h.block⟩
theorem str_ne8 {a b : ByteArray} (h : ¬ a = b) : (a.toList == b.toList) = false := by
  rw [beq_eq_false_iff_ne]
  intro e
  exact h (ByteArray.ext (by simpa [ByteArray.toList_eq] using e))
def HasT8 (w : World) (v : Value) (xs : List ByteArray) : Prop :=
  ∃ p c, v = .slice p xs.length c ∧ xs.length ≤ c ∧ (p = none → c = 0) ∧
    (0 < xs.length → ∃ b o, p = some ⟨b, o, none⟩ ∧ b < w.heap.size ∧ ∀ i, i < xs.length → w.cell? ⟨b, o + i, none⟩ = some (.string (xs.getD i ByteArray.empty)))
theorem HasT8.below {w w' : World} {B : Nat} {v : Value} {xs : List ByteArray} (h : HasT8 w v xs) (hb : Below B w w') (hB : w.heap.size ≤ B) : HasT8 w' v xs := by
  obtain ⟨p, c, rfl, h1, h2, h3⟩ := h
  refine ⟨p, c, rfl, h1, h2, fun h0 => ?_⟩
  obtain ⟨b, o, rfl, hlt, hc⟩ := h3 h0
  exact ⟨b, o, rfl, Nat.lt_of_lt_of_le hlt hb.size, fun i hi => (hb.cell (p := ⟨b, o + i, none⟩) (by exact Nat.lt_of_lt_of_le hlt hB)).trans (hc i hi)⟩

set_option maxRecDepth 10000 in
set_option maxHeartbeats 2000000 in
theorem texts8 (u v : Value) (xs ys : List ByteArray) (w : World) (hx : HasT8 w u xs) (hy : HasT8 w v ys) (lx : xs.length ≤ 1099511627776) (ly : ys.length ≤ 1099511627776) :
    Calls Try.prog 31 #[u, v] w fun e w' => e = .returned (.bool (decide (xs = ys))) ∧ Below w.heap.size w w' := by
  obtain ⟨p, c, rfl, hc, _, hcx⟩ := hx
  obtain ⟨q, d, rfl, hd, _, hcy⟩ := hy
  by_cases hl : xs.length = ys.length
  · rcases Nat.eq_zero_or_pos xs.length with h0 | h0
    · obtain rfl : xs = [] := List.eq_nil_of_length_eq_zero h0
      obtain rfl : ys = [] := List.eq_nil_of_length_eq_zero (by simpa using hl.symm)
      go_enter Try.func31, Try.ntmps31
      go_wp2
      go_loop [13] (fun t => t = .int .i64 0) (fun _ => 0)
      case atStart => rfl
      case round =>
        obtain rfl := hrel
        go_wp2
        go_ret
        exact ⟨rfl, Below.refl _ _⟩
    · obtain ⟨b, o, rfl, hbl, hcx⟩ := hcx h0
      obtain ⟨b', o', rfl, hbl', hcy⟩ := hcy (by omega)
      have hl' : ((xs.length : Int) == (ys.length : Int)) = true := by rw [hl]; simp
      go_enter Try.func31, Try.ntmps31
      go_wp2
      go_loopw [13] (fun t wr => ∃ j : Nat, j ≤ xs.length ∧ t = .int .i64 j ∧ Hid (∀ i, i < j → xs.getD i ByteArray.empty = ys.getD i ByteArray.empty) ∧ Below w.heap.size w wr) (fun t _ => xs.length - (intOf t).toNat)
      case atStart => exact ⟨0, by omega, rfl, fun i hi => by omega, Below.refl _ _⟩
      case round =>
        obtain ⟨j, hj, rfl, hs, hb⟩ := hrel
        by_cases hlt : j < xs.length
        · have c1 : wr.cell? ⟨b, o + j, none⟩ = some (.string (xs.getD j ByteArray.empty)) := (hb.cell (p := ⟨b, o + j, none⟩) hbl).trans (hcx j hlt)
          have c2 : wr.cell? ⟨b', o' + j, none⟩ = some (.string (ys.getD j ByteArray.empty)) := (hb.cell (p := ⟨b', o' + j, none⟩) hbl').trans (hcy j (by omega))
          have hj1 : (j : Int) < (xs.length : Int) := by omega
          have hj2 : (j : Int) < (ys.length : Int) := by omega
          by_cases he : xs.getD j ByteArray.empty = ys.getD j ByteArray.empty
          · have he' : ((xs.getD j ByteArray.empty).toList == (ys.getD j ByteArray.empty).toList) = true := by rw [he]; exact beq_self_eq_true _
            have hs' : Hid (∀ i, i < j + 1 → xs.getD i ByteArray.empty = ys.getD i ByteArray.empty) := fun i hi => by
              by_cases e : i = j
              · rw [e]; exact he
              · exact hs.out i (by omega)
            clear hs he hcx hcy
            generalize xs.getD j ByteArray.empty = x at *
            generalize ys.getD j ByteArray.empty = y at *
            go_wp2
            go_quiet (fail)
            go_wp2
            go_roundw
            case rel => exact ⟨j + 1, by omega, by simp, hs', below_drewN8 hb _⟩
            case measure => simp only [intOf]; omega
          · have he' : ((xs.getD j ByteArray.empty).toList == (ys.getD j ByteArray.empty).toList) = false := str_ne8 he
            have hd0 : Hid (decide (xs = ys) = false) := decide_eq_false fun e => he (by rw [e])
            clear hs he hcx hcy
            generalize xs.getD j ByteArray.empty = x at *
            generalize ys.getD j ByteArray.empty = y at *
            go_wp2
            go_quiet (fail)
            go_wp2
            go_ret
            exact ⟨by rw [hd0.out]; rfl, below_drewN8 hb _⟩
        · obtain rfl : j = xs.length := by omega
          have he : Hid (decide (xs = ys) = true) := decide_eq_true (List.ext_getElem hl fun i h1 h2 => by
            have := hs.out i h1
            simpa [List.getD_eq_getElem?_getD, List.getElem?_eq_getElem h1, List.getElem?_eq_getElem h2] using this)
          clear hs hcx hcy
          go_wp2
          go_ret
          exact ⟨by rw [he.out]; rfl, hb⟩
  · have hne : xs ≠ ys := fun e => hl (by rw [e])
    have hd0 : decide (xs = ys) = false := decide_eq_false hne
    have hl' : ((xs.length : Int) == (ys.length : Int)) = false := by
      rw [beq_eq_false_iff_ne]; omega
    clear hcx hcy
    rw [hd0]
    go_enter Try.func31, Try.ntmps31
    go_wp2
    go_ret
    exact ⟨rfl, Below.refl _ _⟩

theorem ofBytes8 {xs ys : List Int} (hx : isB8 xs) (hy : isB8 ys) (h2 : (xs.map fun n => UInt8.ofNat n.toNat) = ys.map fun n => UInt8.ofNat n.toNat) : xs = ys := by
  induction xs generalizing ys with
  | nil => cases ys with
    | nil => rfl
    | cons y ys => simp at h2
  | cons x xs ih => cases ys with
    | nil => simp at h2
    | cons y ys =>
      simp only [List.map_cons, List.cons.injEq] at h2
      have hx0 := hx x List.mem_cons_self
      have hy0 := hy y List.mem_cons_self
      have e : x = y := by
        have := congrArg UInt8.toNat h2.1
        simp at this
        omega
      rw [e, ih (fun a ha => hx a (List.mem_cons_of_mem _ ha)) (fun a ha => hy a (List.mem_cons_of_mem _ ha)) h2.2]

theorem strs8 {xs ys : List Int} (hx : isB8 xs) (hy : isB8 ys) : ((strOfNums xs).toList == (strOfNums ys).toList) = (xs == ys) := by
  rw [ByteArray.toList_eq, ByteArray.toList_eq, strOfNums_data, strOfNums_data, Bool.eq_iff_iff]
  simp only [beq_iff_eq]
  exact ⟨ofBytes8 hx hy, fun h => by rw [h]⟩

set_option maxRecDepth 100000 in
set_option maxHeartbeats 1000000 in
theorem same8 (v1 v2 : Value) (xs ys : List Int) (w : World) (h1 : Has w v1 xs) (h2 : Has w v2 ys) (hx : isB8 xs) (hy : isB8 ys) :
    Calls Try.prog 41 #[v1, v2] w fun e w' => e = .returned (.bool (xs == ys)) ∧ w' = w := by
  have c1 := h1.conv (P := Try.prog) 29 5 9 Try.underlying29 Try.underlying5 Try.underlying9
  have c2 := h2.conv (P := Try.prog) 29 5 9 Try.underlying29 Try.underlying5 Try.underlying9
  go_enter Try.func41, Try.ntmps41
  go_wp2
  go_ret
  exact ⟨congrArg (fun b => Ending.returned (Value.bool b)) (strs8 hx hy), rfl⟩


/-- The greater memory, of which j bytes have been laid. -/
def lentB8 (xs : List Int) (j : Nat) : List Int := 165 :: (xs.take j ++ List.replicate (xs.length - j) 0) ++ [90]
theorem lent_length8 (xs : List Int) (j : Nat) (h : j ≤ xs.length) : (lentB8 xs j).length = xs.length + 2 := by simp [lentB8]; omega
theorem lent_zero8 (xs : List Int) : ((List.replicate (xs.length + 2) (0 : Int)).set 0 165).set (xs.length + 1) 90 = lentB8 xs 0 := by
  unfold lentB8
  rw [show List.replicate (xs.length + 2) (0 : Int) = 0 :: (List.replicate xs.length 0 ++ [0]) from by rw [List.replicate_succ, List.replicate_succ']]
  simp
theorem lent_step8 (xs : List Int) (j : Nat) (h : j < xs.length) : (lentB8 xs j).set (j + 1) (xs.getD j 0) = lentB8 xs (j + 1) := by
  unfold lentB8
  obtain ⟨k, hk⟩ : ∃ k, xs.length - j = k + 1 := ⟨xs.length - j - 1, by omega⟩
  have hl : (xs.take j).length = j := by rw [List.length_take]; omega
  rw [hk, show xs.length - (j + 1) = k by omega, List.take_succ_eq_append_getElem h, List.replicate_succ]
  simp only [List.cons_append, List.set_cons_succ, List.append_assoc]
  rw [List.set_append_right _ _ (by omega), hl]
  simp [List.getElem?_eq_getElem h]
theorem lent_end8 (xs : List Int) : lentB8 xs xs.length = 165 :: (xs ++ [90]) := by simp [lentB8]

theorem made_zero8 (n : Nat) : (madeCells (Value.int .u8 0).cells (n * 1)).toList = cellsB (List.replicate n 0) := by
  unfold madeCells cellsB
  rw [Array.toList_map, Array.toList_range, Nat.mul_one, List.map_replicate]
  apply List.ext_getElem
  · simp
  · intro i h1 h2
    simp [Value.cells, Nat.mod_one]

theorem made_owns8 (w : World) (B : Nat) (e : TypeId) (n : Nat) (h : w.ownsRow B e 1 (.slice (some ⟨B, 0, none⟩) (n + 2) (n + 2)) (n + 2) (madeCells (Value.int .u8 0).cells ((n + 2) * 1)).toList) :
    Owns w B e (.slice (some ⟨B, 0, none⟩) (n + 2) (n + 2)) (List.replicate (n + 2) 0) := by
  unfold Owns
  rw [List.length_replicate, ← made_zero8]
  exact h
theorem made_lt8 (w : World) (B : Nat) (e : TypeId) (n : Nat) (h : w.ownsRow B e 1 (.slice (some ⟨B, 0, none⟩) (n + 2) (n + 2)) (n + 2) (madeCells (Value.int .u8 0).cells ((n + 2) * 1)).toList) : B < w.heap.size :=
  (World.ownsRow.lt h B rfl).2
theorem made_facts8 (w : World) (B : Nat) (e : TypeId) (n : Nat) (h : w.ownsRow B e 1 (.slice (some ⟨B, 0, none⟩) (n + 2) (n + 2)) (n + 2) (madeCells (Value.int .u8 0).cells ((n + 2) * 1)).toList) :
    w.cell? ⟨B, 0, none⟩ = some (.int .u8 0) ∧ w.cell? ⟨B, n + 1, none⟩ = some (.int .u8 0) ∧ w.frozen? ⟨B, 0, none⟩ = false ∧ w.frozen? ⟨B, n + 1, none⟩ = false := by
  have ho := made_owns8 w B e n h
  have c := fun j (hj : j < n + 2) => World.ownsRow.cellAt h j (by omega)
  refine ⟨?_, ?_, World.ownsRow.frozenAt h 0, World.ownsRow.frozenAt h (n + 1)⟩
  · rw [c 0 (by omega), made_zero8]; simp [cellsB]
  · rw [c (n + 1) (by omega), made_zero8]; simp [cellsB]

set_option maxRecDepth 100000 in
set_option maxHeartbeats 1000000 in
theorem lend_any8 (v : Value) (xs : List Int) (w : World) (hv : Has w v xs) (hl : xs.length ≤ 1099511627776) :
    Calls Try.prog 34 #[v] w fun e w' => e = .returned (.tuple #[.slice (some ⟨w.heap.size, 0, none⟩) (xs.length + 2) (xs.length + 2), .slice (some ⟨w.heap.size, 1, none⟩) xs.length (xs.length + 1)]) ∧ Has w' (.slice (some ⟨w.heap.size, 0, none⟩) (xs.length + 2) (xs.length + 2)) (165 :: (xs ++ [90])) ∧ Has w' (.slice (some ⟨w.heap.size, 1, none⟩) xs.length (xs.length + 1)) xs ∧ Below w.heap.size w w' := by
  obtain ⟨i0, hi, hz0, hz1, hz2⟩ := info_parts (show (Try.prog.info? 5).map (fun i => (i.zero, i.size, i.bytes)) = some (some (.int .u8 0), 1, 1) by kernel_rfl)
  obtain ⟨p, c, rfl, hc, hnone, hcell⟩ := id hv
  clear hnone
  go_enter Try.func34, Try.ntmps34
  go_wp2_with (at_make; refine wpList_make_full _ rfl _ _ 29 rfl w.heap.size 5 i0 (.int .u8 0) 1 Try.underlying29 hi hz0 hz1 _ _ _ _ (xs.length + 2) rfl rfl (by omega) (by omega) (by rw [hz2]; omega) (by unfold maxLen; omega) (Nat.le_refl _) ?_; intro w0 hown0 hgrow0; obtain ⟨c0, c1, f0, f1⟩ := made_facts8 w0 _ _ xs.length hown0)
  have ho0 := made_owns8 w0 _ _ xs.length hown0
  have hb0 : Below w.heap.size w w0 := (Below.refl w.heap.size w).grown hgrow0 (Nat.le_refl _) (fun k h => by cases h)
  have hbig : w.heap.size < w0.heap.size := made_lt8 w0 _ _ xs.length hown0
  clear hown0 hgrow0 c0 c1 f0 f1
  have hs1 := (Owns.store (xs := List.replicate (xs.length + 2) 0) (by rw [List.length_replicate]; exact ho0) 0 165).1
  have hs2 := (Owns.store hs1 (xs.length + 1) 90).1
  rw [lent_zero8, List.length_set, List.length_replicate] at hs2
  have hbs : Below w.heap.size w ((w0.setCell ⟨w.heap.size, 0, none⟩ (.int .u8 165)).setCell ⟨w.heap.size, xs.length + 1, none⟩ (.int .u8 90)) := (hb0.setCell (Nat.le_refl _) _).setCell (Nat.le_refl _) _
  have HS2 : Hid (Owns ((w0.setCell ⟨w.heap.size, 0, none⟩ (.int .u8 165)).setCell ⟨w.heap.size, xs.length + 1, none⟩ (.int .u8 90)) w.heap.size 5 (.slice (some ⟨w.heap.size, 0, none⟩) (xs.length + 2) (xs.length + 2)) (lentB8 xs 0)) := hs2
  have HBS := show Hid _ from hbs
  clear hs1 hs2 hbs ho0 hb0
  generalize hBw : w.heap.size = B at *
  have HBw : Hid (w.heap.size = B) := hBw
  clear hBw
  go_loopw [20] (fun i wr => ∃ j : Nat, j ≤ xs.length ∧ i = .int .i64 j ∧ Owns wr B 5 (.slice (some ⟨B, 0, none⟩) (xs.length + 2) (xs.length + 2)) (lentB8 xs j) ∧ Below B w wr) (fun i _ => xs.length - (intOf i).toNat)
  case atStart => exact ⟨0, Nat.zero_le _, rfl, HS2.out, HBS.out⟩
  case round =>
    obtain ⟨j, hj, rfl, hor, hbr⟩ := hrel
    by_cases hlt : j < xs.length
    · obtain ⟨b, o, rfl, hbl, hcl⟩ := hcell (by omega)
      have h1 := (hbr.cell (p := ⟨b, o + j, none⟩) hbl).trans (hcl j hlt)
      have hor' : wr.ownsRow B 5 1 (.slice (some ⟨B, 0, none⟩) (xs.length + 2) (xs.length + 2)) (xs.length + 2) (cellsB (lentB8 xs j)) := by
        have h := hor
        unfold Owns at h
        rwa [lent_length8 xs j hj] at h
      have hcl1 := World.ownsRow.cellAt hor' (j + 1) (by omega)
      have hfr1 := World.ownsRow.frozenAt hor' (j + 1)
      clear hor'
      obtain ⟨cv, hcv⟩ : ∃ cv, (cellsB (lentB8 xs j))[j + 1]? = some cv := ⟨_, List.getElem?_eq_getElem (by rw [cellsB_length, lent_length8 xs j hj]; omega)⟩
      rw [hcv] at hcl1
      have hst := (Owns.store (xs := lentB8 xs j) (by rw [lent_length8 xs j hj]; exact hor) (j + 1) (xs.getD j 0)).1
      rw [lent_step8 xs j hlt, lent_length8 xs j hj] at hst
      have HST := show Hid _ from hst
      clear hst hcv hor hcell hcl
      generalize xs.getD j 0 = x at *
      go_wp2
      go_roundw
      case rel => exact ⟨j + 1, by omega, by go_num, HST.out, hbr.setCell (Nat.le_refl _) _⟩
      case measure => simp [intOf]; omega
    · obtain rfl : j = xs.length := by omega
      rw [lent_end8] at hor
      have hv1 := hor.has
      have hl2 : (165 :: (xs ++ [90])).length = xs.length + 2 := by simp only [List.length_cons, List.length_append, List.length_nil]
      have hv2 : Has wr (.slice (some ⟨B, 0, none⟩) (165 :: (xs ++ [90])).length (xs.length + 2)) (165 :: (xs ++ [90])) := by rw [hl2]; exact hv1
      have hv3 := hv2.cutAt 1 xs.length (by rw [hl2]; omega)
      clear hl2
      rw [show ((165 :: (xs ++ [90])).drop 1).take xs.length = xs from by simp] at hv3
      have HV1 : Hid (Has wr (.slice (some ⟨B, 0, none⟩) (xs.length + 2) (xs.length + 2)) (165 :: (xs ++ [90]))) := hv1
      have HV3 : Hid (Has wr (.slice (some ⟨B, 1, none⟩) xs.length (xs.length + 1)) xs) := (by simpa using hv3 : Has wr (.slice (some ⟨B, 1, none⟩) xs.length (xs.length + 1)) xs)
      clear hv1 hv2 hv3 hor hcell
      go_wp2_with fail
      go_quiet (fail)
      go_wp2
      go_ret2
      rw [HBw.out]
      exact ⟨rfl, HV1.out.below (below_drewN8 (Below.refl _ _) _) (Nat.le_refl _), HV3.out.below (below_drewN8 (Below.refl _ _) _) (Nat.le_refl _), below_drewN8 hbr _⟩

set_option maxRecDepth 100000 in
set_option maxHeartbeats 2000000 in
theorem kept_any8 (v1 v : Value) (xs : List Int) (w : World) (h1 : Has w v1 (165 :: (xs ++ [90]))) (hv : Has w v xs) (hl : xs.length ≤ 1099511627776) :
    Calls Try.prog 36 #[v1, v] w fun e w' => e = .returned (.bool true) ∧ Below w.heap.size w w' := by
  have hl2 : (165 :: (xs ++ [90])).length = xs.length + 2 := by simp only [List.length_cons, List.length_append, List.length_nil]
  obtain ⟨p1, c1, rfl, hc1, _, hcell1⟩ := id h1
  obtain ⟨b1, o1, rfl, hb1, hcl1⟩ := hcell1 (by rw [hl2]; omega)
  obtain ⟨p, c, rfl, hc, _, _⟩ := id hv
  have e0 := hcl1 0 (by rw [hl2]; omega)
  have e1 := hcl1 (xs.length + 1) (by rw [hl2]; omega)
  rw [show (165 :: (xs ++ [90])).getD 0 0 = 165 from rfl, Nat.add_zero] at e0
  rw [show (165 :: (xs ++ [90])).getD (xs.length + 1) 0 = 90 from by simp] at e1
  have hcut := h1.cutAt 1 xs.length (by rw [hl2]; omega)
  rw [show ((165 :: (xs ++ [90])).drop 1).take xs.length = xs from by simp] at hcut
  have cv1 := fun n => (hcut.below (below_drewN8 (Below.refl w.heap.size w) n) (Nat.le_refl _)).conv (P := Try.prog) 29 5 9 Try.underlying29 Try.underlying5 Try.underlying9
  have cv2 := fun n => (hv.below (below_drewN8 (Below.refl w.heap.size w) n) (Nat.le_refl _)).conv (P := Try.prog) 29 5 9 Try.underlying29 Try.underlying5 Try.underlying9
  have d1 : (((xs.length : Int) + 2 == (xs.length : Int) + 2) = true) := by simp
  rw [hl2] at hc1 ⊢
  have hq : ¬ c1 = 1 := by omega
  clear hcell1 hcl1 hcut h1 hv hl2
  go_enter Try.func36, Try.ntmps36
  go_wp2_with fail
  go_quiet (fail)
  go_wp2
  go_ret
  exact ⟨rfl, below_drewN8 (Below.refl _ _) _⟩
theorem HasX.of_has {w : World} {S : Nat → Prop} {b o n c : Nat} {xs : List Int} (h : Has w (.slice (some ⟨b, o, none⟩) n c) xs) (hS : ¬ S b) : HasX w S (.slice (some ⟨b, o, none⟩) n c) xs := by
  obtain ⟨p, c', e, h1, h2, h3⟩ := h
  simp only [Value.slice.injEq] at e
  obtain ⟨rfl, rfl, rfl⟩ := e
  refine ⟨_, _, rfl, h1, h2, fun h0 => ?_⟩
  obtain ⟨b', o', e, hb, hc⟩ := h3 h0
  refine ⟨b', o', e, fun hs => ?_, hb, hc⟩
  simp only [Option.some.injEq, Addr.mk.injEq] at e
  obtain ⟨rfl, _⟩ := e
  exact hS hs
end Go.Proofs.Ytefgnehahedckaa
