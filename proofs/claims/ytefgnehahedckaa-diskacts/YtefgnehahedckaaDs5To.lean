import Derived.Test.YtefgnehahedckaaDkXTo
import Derived.BigQuiet
import Derived.WalkSmall
import Derived.Test.YtefgnehahedckaaDs3To
/-
  Contracts: corbelref01.Same, Texts, Lend, Kept, over this seat's words.
-/
namespace Go.Proofs.Ytefgnehahedckaa
open Go.RowKit

theorem below_drewN8 {B : Nat} {a w : World} (h : Below B a w) (m : Nat) : Below B a (w.drewN m) := ⟨h.os, h.tape, h.output, h.size, h.block⟩
theorem str_ne8 {a b : ByteArray} (h : ¬ a = b) : (a.toList == b.toList) = false := by
  rw [beq_eq_false_iff_ne]
  intro e
  exact h (ByteArray.ext (by simpa [ByteArray.toList_eq] using e))
def HasT8 (w : World) (v : Value) (xs : List ByteArray) : Prop :=
  ∃ p c, v = .slice p xs.length c ∧ xs.length ≤ c ∧ (p = none → c = 0) ∧
    (0 < xs.length → ∃ b o, p = some ⟨b, o, none⟩ ∧ b < w.heap.size ∧ ∀ i, i < xs.length → w.cell? ⟨b, o + i, none⟩ = some (.string (xs.getD i ByteArray.empty)))
theorem HasT8.below {w w' : World} {B : Nat} {v : Value} {xs : List ByteArray} (h : HasT8 w v xs) (hb : Below B w w') (hB : w.heap.size ≤ B) : HasT8 w' v xs := by
  obtain ⟨p, c, rfl, h1, h2, h3⟩ := h
  refine ⟨p, c, rfl, h1, h2, fun h0 => ?_⟩
  obtain ⟨b, o, rfl, hlt, hc⟩ := h3 h0
  exact ⟨b, o, rfl, Nat.lt_of_lt_of_le hlt hb.size, fun i hi => (hb.cell (p := ⟨b, o + i, none⟩) (by exact Nat.lt_of_lt_of_le hlt hB)).trans (hc i hi)⟩

set_option maxRecDepth 10000 in
set_option maxHeartbeats 2000000 in
theorem texts8 (u v : Value) (xs ys : List ByteArray) (w : World) (hx : HasT8 w u xs) (hy : HasT8 w v ys) (lx : xs.length ≤ 1099511627776) (ly : ys.length ≤ 1099511627776) :
    Calls Try.prog 31 #[u, v] w fun e w' => e = .returned (.bool (decide (xs = ys))) ∧ Below w.heap.size w w' := by
  obtain ⟨p, c, rfl, hc, _, hcx⟩ := hx
  obtain ⟨q, d, rfl, hd, _, hcy⟩ := hy
  by_cases hl : xs.length = ys.length
  · rcases Nat.eq_zero_or_pos xs.length with h0 | h0
    · obtain rfl : xs = [] := List.eq_nil_of_length_eq_zero h0
      obtain rfl : ys = [] := List.eq_nil_of_length_eq_zero (by simpa using hl.symm)
      go_enter Try.func31, Try.ntmps31
      go_wp2
      go_loop [13] (fun t => t = .int .i64 0) (fun _ => 0)
      case atStart => rfl
      case round =>
        obtain rfl := hrel
        go_wp2
        go_ret
        exact ⟨rfl, Below.refl _ _⟩
    · obtain ⟨b, o, rfl, hbl, hcx⟩ := hcx h0
      obtain ⟨b', o', rfl, hbl', hcy⟩ := hcy (by omega)
      have hl' : ((xs.length : Int) == (ys.length : Int)) = true := by rw [hl]; simp
      go_enter Try.func31, Try.ntmps31
      go_wp2
      go_loopw [13] (fun t wr => ∃ j : Nat, j ≤ xs.length ∧ t = .int .i64 j ∧ Hid (∀ i, i < j → xs.getD i ByteArray.empty = ys.getD i ByteArray.empty) ∧ Below w.heap.size w wr) (fun t _ => xs.length - (intOf t).toNat)
      case atStart => exact ⟨0, by omega, rfl, fun i hi => by omega, Below.refl _ _⟩
      case round =>
        obtain ⟨j, hj, rfl, hs, hb⟩ := hrel
        by_cases hlt : j < xs.length
        · have c1 : wr.cell? ⟨b, o + j, none⟩ = some (.string (xs.getD j ByteArray.empty)) := (hb.cell (p := ⟨b, o + j, none⟩) hbl).trans (hcx j hlt)
          have c2 : wr.cell? ⟨b', o' + j, none⟩ = some (.string (ys.getD j ByteArray.empty)) := (hb.cell (p := ⟨b', o' + j, none⟩) hbl').trans (hcy j (by omega))
          have hj1 : (j : Int) < (xs.length : Int) := by omega
          have hj2 : (j : Int) < (ys.length : Int) := by omega
          by_cases he : xs.getD j ByteArray.empty = ys.getD j ByteArray.empty
          · have he' : ((xs.getD j ByteArray.empty).toList == (ys.getD j ByteArray.empty).toList) = true := by rw [he]; exact beq_self_eq_true _
            have hs' : Hid (∀ i, i < j + 1 → xs.getD i ByteArray.empty = ys.getD i ByteArray.empty) := fun i hi => by
              by_cases e : i = j
              · rw [e]; exact he
              · exact hs.out i (by omega)
            clear hs he hcx hcy
            generalize xs.getD j ByteArray.empty = x at *
            generalize ys.getD j ByteArray.empty = y at *
            go_wp2
            go_quiet (fail)
            go_wp2
            go_roundw
            case rel => exact ⟨j + 1, by omega, by simp, hs', below_drewN8 hb _⟩
            case measure => simp only [intOf]; omega
          · have he' : ((xs.getD j ByteArray.empty).toList == (ys.getD j ByteArray.empty).toList) = false := str_ne8 he
            have hd0 : Hid (decide (xs = ys) = false) := decide_eq_false fun e => he (by rw [e])
            clear hs he hcx hcy
            generalize xs.getD j ByteArray.empty = x at *
            generalize ys.getD j ByteArray.empty = y at *
            go_wp2
            go_quiet (fail)
            go_wp2
            go_ret
            exact ⟨by rw [hd0.out]; rfl, below_drewN8 hb _⟩
        · obtain rfl : j = xs.length := by omega
          have he : Hid (decide (xs = ys) = true) := decide_eq_true (List.ext_getElem hl fun i h1 h2 => by
            have := hs.out i h1
            simpa [List.getD_eq_getElem?_getD, List.getElem?_eq_getElem h1, List.getElem?_eq_getElem h2] using this)
          clear hs hcx hcy
          go_wp2
          go_ret
          exact ⟨by rw [he.out]; rfl, hb⟩
  · have hne : xs ≠ ys := fun e => hl (by rw [e])
    have hd0 : decide (xs = ys) = false := decide_eq_false hne
    have hl' : ((xs.length : Int) == (ys.length : Int)) = false := by
      rw [beq_eq_false_iff_ne]; omega
    clear hcx hcy
    rw [hd0]
    go_enter Try.func31, Try.ntmps31
    go_wp2
    go_ret
    exact ⟨rfl, Below.refl _ _⟩

theorem ofBytes8 {xs ys : List Int} (hx : isB8 xs) (hy : isB8 ys) (h2 : (xs.map fun n => UInt8.ofNat n.toNat) = ys.map fun n => UInt8.ofNat n.toNat) : xs = ys := by
  induction xs generalizing ys with
  | nil => cases ys with
    | nil => rfl
    | cons y ys => simp at h2
  | cons x xs ih => cases ys with
    | nil => simp at h2
    | cons y ys =>
      simp only [List.map_cons, List.cons.injEq] at h2
      have hx0 := hx x List.mem_cons_self
      have hy0 := hy y List.mem_cons_self
      have e : x = y := by
        have := congrArg UInt8.toNat h2.1
        simp at this
        omega
      rw [e, ih (fun a ha => hx a (List.mem_cons_of_mem _ ha)) (fun a ha => hy a (List.mem_cons_of_mem _ ha)) h2.2]

theorem strs8 {xs ys : List Int} (hx : isB8 xs) (hy : isB8 ys) : ((strOfNums xs).toList == (strOfNums ys).toList) = (xs == ys) := by
  rw [ByteArray.toList_eq, ByteArray.toList_eq, strOfNums_data, strOfNums_data, Bool.eq_iff_iff]
  simp only [beq_iff_eq]
  exact ⟨ofBytes8 hx hy, fun h => by rw [h]⟩

set_option maxRecDepth 100000 in
set_option maxHeartbeats 1000000 in
theorem same8 (v1 v2 : Value) (xs ys : List Int) (w : World) (h1 : Has w v1 xs) (h2 : Has w v2 ys) (hx : isB8 xs) (hy : isB8 ys) :
    Calls Try.prog 41 #[v1, v2] w fun e w' => e = .returned (.bool (xs == ys)) ∧ w' = w := by
  have c1 := h1.conv (P := Try.prog) 29 5 9 Try.underlying29 Try.underlying5 Try.underlying9
  have c2 := h2.conv (P := Try.prog) 29 5 9 Try.underlying29 Try.underlying5 Try.underlying9
  go_enter Try.func41, Try.ntmps41
  go_wp2
  go_ret
  exact ⟨congrArg (fun b => Ending.returned (Value.bool b)) (strs8 hx hy), rfl⟩


/-- The greater memory, of which j bytes have been laid. -/
def lentB8 (xs : List Int) (j : Nat) : List Int := 165 :: (xs.take j ++ List.replicate (xs.length - j) 0) ++ [90]
theorem lent_length8 (xs : List Int) (j : Nat) (h : j ≤ xs.length) : (lentB8 xs j).length = xs.length + 2 := by simp [lentB8]; omega
theorem lent_zero8 (xs : List Int) : ((List.replicate (xs.length + 2) (0 : Int)).set 0 165).set (xs.length + 1) 90 = lentB8 xs 0 := by
  unfold lentB8
  rw [show List.replicate (xs.length + 2) (0 : Int) = 0 :: (List.replicate xs.length 0 ++ [0]) from by rw [List.replicate_succ, List.replicate_succ']]
  simp
theorem lent_step8 (xs : List Int) (j : Nat) (h : j < xs.length) : (lentB8 xs j).set (j + 1) (xs.getD j 0) = lentB8 xs (j + 1) := by
  unfold lentB8
  obtain ⟨k, hk⟩ : ∃ k, xs.length - j = k + 1 := ⟨xs.length - j - 1, by omega⟩
  have hl : (xs.take j).length = j := by rw [List.length_take]; omega
  rw [hk, show xs.length - (j + 1) = k by omega, List.take_succ_eq_append_getElem h, List.replicate_succ]
  simp only [List.cons_append, List.set_cons_succ, List.append_assoc]
  rw [List.set_append_right _ _ (by omega), hl]
  simp [List.getElem?_eq_getElem h]
theorem lent_end8 (xs : List Int) : lentB8 xs xs.length = 165 :: (xs ++ [90]) := by simp [lentB8]

theorem made_zero8 (n : Nat) : (madeCells (Value.int .u8 0).cells (n * 1)).toList = cellsB (List.replicate n 0) := by
  unfold madeCells cellsB
  rw [Array.toList_map, Array.toList_range, Nat.mul_one, List.map_replicate]
  apply List.ext_getElem
  · simp
  · intro i h1 h2
    simp [Value.cells, Nat.mod_one]

theorem made_owns8 (w : World) (B : Nat) (e : TypeId) (n : Nat) (h : w.ownsRow B e 1 (.slice (some ⟨B, 0, none⟩) (n + 2) (n + 2)) (n + 2) (madeCells (Value.int .u8 0).cells ((n + 2) * 1)).toList) :
    Owns w B e (.slice (some ⟨B, 0, none⟩) (n + 2) (n + 2)) (List.replicate (n + 2) 0) := by
  unfold Owns
  rw [List.length_replicate, ← made_zero8]
  exact h
theorem made_lt8 (w : World) (B : Nat) (e : TypeId) (n : Nat) (h : w.ownsRow B e 1 (.slice (some ⟨B, 0, none⟩) (n + 2) (n + 2)) (n + 2) (madeCells (Value.int .u8 0).cells ((n + 2) * 1)).toList) : B < w.heap.size :=
  (World.ownsRow.lt h B rfl).2
theorem made_facts8 (w : World) (B : Nat) (e : TypeId) (n : Nat) (h : w.ownsRow B e 1 (.slice (some ⟨B, 0, none⟩) (n + 2) (n + 2)) (n + 2) (madeCells (Value.int .u8 0).cells ((n + 2) * 1)).toList) :
    w.cell? ⟨B, 0, none⟩ = some (.int .u8 0) ∧ w.cell? ⟨B, n + 1, none⟩ = some (.int .u8 0) ∧ w.frozen? ⟨B, 0, none⟩ = false ∧ w.frozen? ⟨B, n + 1, none⟩ = false := by
  have ho := made_owns8 w B e n h
  have c := fun j (hj : j < n + 2) => World.ownsRow.cellAt h j (by omega)
  refine ⟨?_, ?_, World.ownsRow.frozenAt h 0, World.ownsRow.frozenAt h (n + 1)⟩
  · rw [c 0 (by omega), made_zero8]; simp [cellsB]
  · rw [c (n + 1) (by omega), made_zero8]; simp [cellsB]

set_option maxRecDepth 100000 in
set_option maxHeartbeats 1000000 in
theorem lend_any8 (v : Value) (xs : List Int) (w : World) (hv : Has w v xs) (hl : xs.length ≤ 1099511627776) :
    Calls Try.prog 34 #[v] w fun e w' => e = .returned (.tuple #[.slice (some ⟨w.heap.size, 0, none⟩) (xs.length + 2) (xs.length + 2), .slice (some ⟨w.heap.size, 1, none⟩) xs.length (xs.length + 1)]) ∧ Has w' (.slice (some ⟨w.heap.size, 0, none⟩) (xs.length + 2) (xs.length + 2)) (165 :: (xs ++ [90])) ∧ Has w' (.slice (some ⟨w.heap.size, 1, none⟩) xs.length (xs.length + 1)) xs ∧ Below w.heap.size w w' := by
  obtain ⟨i0, hi, hz0, hz1, hz2⟩ := info_parts (show (Try.prog.info? 5).map (fun i => (i.zero, i.size, i.bytes)) = some (some (.int .u8 0), 1, 1) by kernel_rfl)
  obtain ⟨p, c, rfl, hc, hnone, hcell⟩ := id hv
  clear hnone
  go_enter Try.func34, Try.ntmps34
  go_wp2_with (at_make; refine wpList_make_full _ rfl _ _ 29 rfl w.heap.size 5 i0 (.int .u8 0) 1 Try.underlying29 hi hz0 hz1 _ _ _ _ (xs.length + 2) rfl rfl (by omega) (by omega) (by rw [hz2]; omega) (by unfold maxLen; omega) (Nat.le_refl _) ?_; intro w0 hown0 hgrow0; obtain ⟨c0, c1, f0, f1⟩ := made_facts8 w0 _ _ xs.length hown0)
  have ho0 := made_owns8 w0 _ _ xs.length hown0
  have hb0 : Below w.heap.size w w0 := (Below.refl w.heap.size w).grown hgrow0 (Nat.le_refl _) (fun k h => by cases h)
  have hbig : w.heap.size < w0.heap.size := made_lt8 w0 _ _ xs.length hown0
  clear hown0 hgrow0 c0 c1 f0 f1
  have hs1 := (Owns.store (xs := List.replicate (xs.length + 2) 0) (by rw [List.length_replicate]; exact ho0) 0 165).1
  have hs2 := (Owns.store hs1 (xs.length + 1) 90).1
  rw [lent_zero8, List.length_set, List.length_replicate] at hs2
  have hbs : Below w.heap.size w ((w0.setCell ⟨w.heap.size, 0, none⟩ (.int .u8 165)).setCell ⟨w.heap.size, xs.length + 1, none⟩ (.int .u8 90)) := (hb0.setCell (Nat.le_refl _) _).setCell (Nat.le_refl _) _
  have HS2 : Hid (Owns ((w0.setCell ⟨w.heap.size, 0, none⟩ (.int .u8 165)).setCell ⟨w.heap.size, xs.length + 1, none⟩ (.int .u8 90)) w.heap.size 5 (.slice (some ⟨w.heap.size, 0, none⟩) (xs.length + 2) (xs.length + 2)) (lentB8 xs 0)) := hs2
  have HBS := show Hid _ from hbs
  clear hs1 hs2 hbs ho0 hb0
  generalize hBw : w.heap.size = B at *
  have HBw : Hid (w.heap.size = B) := hBw
  clear hBw
  go_loopw [20] (fun i wr => ∃ j : Nat, j ≤ xs.length ∧ i = .int .i64 j ∧ Owns wr B 5 (.slice (some ⟨B, 0, none⟩) (xs.length + 2) (xs.length + 2)) (lentB8 xs j) ∧ Below B w wr) (fun i _ => xs.length - (intOf i).toNat)
  case atStart => exact ⟨0, Nat.zero_le _, rfl, HS2.out, HBS.out⟩
  case round =>
    obtain ⟨j, hj, rfl, hor, hbr⟩ := hrel
    by_cases hlt : j < xs.length
    · obtain ⟨b, o, rfl, hbl, hcl⟩ := hcell (by omega)
      have h1 := (hbr.cell (p := ⟨b, o + j, none⟩) hbl).trans (hcl j hlt)
      have hor' : wr.ownsRow B 5 1 (.slice (some ⟨B, 0, none⟩) (xs.length + 2) (xs.length + 2)) (xs.length + 2) (cellsB (lentB8 xs j)) := by
        have h := hor
        unfold Owns at h
        rwa [lent_length8 xs j hj] at h
      have hcl1 := World.ownsRow.cellAt hor' (j + 1) (by omega)
      have hfr1 := World.ownsRow.frozenAt hor' (j + 1)
      clear hor'
      obtain ⟨cv, hcv⟩ : ∃ cv, (cellsB (lentB8 xs j))[j + 1]? = some cv := ⟨_, List.getElem?_eq_getElem (by rw [cellsB_length, lent_length8 xs j hj]; omega)⟩
      rw [hcv] at hcl1
      have hst := (Owns.store (xs := lentB8 xs j) (by rw [lent_length8 xs j hj]; exact hor) (j + 1) (xs.getD j 0)).1
      rw [lent_step8 xs j hlt, lent_length8 xs j hj] at hst
      have HST := show Hid _ from hst
      clear hst hcv hor hcell hcl
      generalize xs.getD j 0 = x at *
      go_wp2
      go_roundw
      case rel => exact ⟨j + 1, by omega, by go_num, HST.out, hbr.setCell (Nat.le_refl _) _⟩
      case measure => simp [intOf]; omega
    · obtain rfl : j = xs.length := by omega
      rw [lent_end8] at hor
      have hv1 := hor.has
      have hl2 : (165 :: (xs ++ [90])).length = xs.length + 2 := by simp only [List.length_cons, List.length_append, List.length_nil]
      have hv2 : Has wr (.slice (some ⟨B, 0, none⟩) (165 :: (xs ++ [90])).length (xs.length + 2)) (165 :: (xs ++ [90])) := by rw [hl2]; exact hv1
      have hv3 := hv2.cutAt 1 xs.length (by rw [hl2]; omega)
      clear hl2
      rw [show ((165 :: (xs ++ [90])).drop 1).take xs.length = xs from by simp] at hv3
      have HV1 : Hid (Has wr (.slice (some ⟨B, 0, none⟩) (xs.length + 2) (xs.length + 2)) (165 :: (xs ++ [90]))) := hv1
      have HV3 : Hid (Has wr (.slice (some ⟨B, 1, none⟩) xs.length (xs.length + 1)) xs) := (by simpa using hv3 : Has wr (.slice (some ⟨B, 1, none⟩) xs.length (xs.length + 1)) xs)
      clear hv1 hv2 hv3 hor hcell
      go_wp2_with fail
      go_quiet (fail)
      go_wp2
      go_ret2
      rw [HBw.out]
      exact ⟨rfl, HV1.out.below (below_drewN8 (Below.refl _ _) _) (Nat.le_refl _), HV3.out.below (below_drewN8 (Below.refl _ _) _) (Nat.le_refl _), below_drewN8 hbr _⟩

set_option maxRecDepth 100000 in
set_option maxHeartbeats 2000000 in
theorem kept_any8 (v1 v : Value) (xs : List Int) (w : World) (h1 : Has w v1 (165 :: (xs ++ [90]))) (hv : Has w v xs) (hl : xs.length ≤ 1099511627776) :
    Calls Try.prog 36 #[v1, v] w fun e w' => e = .returned (.bool true) ∧ Below w.heap.size w w' := by
  have hl2 : (165 :: (xs ++ [90])).length = xs.length + 2 := by simp only [List.length_cons, List.length_append, List.length_nil]
  obtain ⟨p1, c1, rfl, hc1, _, hcell1⟩ := id h1
  obtain ⟨b1, o1, rfl, hb1, hcl1⟩ := hcell1 (by rw [hl2]; omega)
  obtain ⟨p, c, rfl, hc, _, _⟩ := id hv
  have e0 := hcl1 0 (by rw [hl2]; omega)
  have e1 := hcl1 (xs.length + 1) (by rw [hl2]; omega)
  rw [show (165 :: (xs ++ [90])).getD 0 0 = 165 from rfl, Nat.add_zero] at e0
  rw [show (165 :: (xs ++ [90])).getD (xs.length + 1) 0 = 90 from by simp] at e1
  have hcut := h1.cutAt 1 xs.length (by rw [hl2]; omega)
  rw [show ((165 :: (xs ++ [90])).drop 1).take xs.length = xs from by simp] at hcut
  have cv1 := fun n => (hcut.below (below_drewN8 (Below.refl w.heap.size w) n) (Nat.le_refl _)).conv (P := Try.prog) 29 5 9 Try.underlying29 Try.underlying5 Try.underlying9
  have cv2 := fun n => (hv.below (below_drewN8 (Below.refl w.heap.size w) n) (Nat.le_refl _)).conv (P := Try.prog) 29 5 9 Try.underlying29 Try.underlying5 Try.underlying9
  have d1 : (((xs.length : Int) + 2 == (xs.length : Int) + 2) = true) := by simp
  rw [hl2] at hc1 ⊢
  have hq : ¬ c1 = 1 := by omega
  clear hcell1 hcl1 hcut h1 hv hl2
  go_enter Try.func36, Try.ntmps36
  go_wp2_with fail
  go_quiet (fail)
  go_wp2
  go_ret
  exact ⟨rfl, below_drewN8 (Below.refl _ _) _⟩
theorem HasX.of_has {w : World} {S : Nat → Prop} {b o n c : Nat} {xs : List Int} (h : Has w (.slice (some ⟨b, o, none⟩) n c) xs) (hS : ¬ S b) : HasX w S (.slice (some ⟨b, o, none⟩) n c) xs := by
  obtain ⟨p, c', e, h1, h2, h3⟩ := h
  simp only [Value.slice.injEq] at e
  obtain ⟨rfl, rfl, rfl⟩ := e
  refine ⟨_, _, rfl, h1, h2, fun h0 => ?_⟩
  obtain ⟨b', o', e, hb, hc⟩ := h3 h0
  refine ⟨b', o', e, fun hs => ?_, hb, hc⟩
  simp only [Option.some.injEq, Addr.mk.injEq] at e
  obtain ⟨rfl, _⟩ := e
  exact hS hs
end Go.Proofs.Ytefgnehahedckaa

/-
  A slice of acts that came in; few of the statements' package.
-/
namespace Go.Proofs.Ytefgnehahedckaa
open Go.RowKit Go.Maps

/-- An act: its kind, its two names, where its bytes lie, its bytes, its two numbers. -/
structure Act8 where
  kind : Int
  a : ByteArray
  b : ByteArray
  p : Option Addr
  c : Nat
  data : List Int
  n : Int
  k : Int
instance : Inhabited Act8 := ⟨⟨0, ByteArray.empty, ByteArray.empty, none, 0, [], 0, 0⟩⟩
def Act8.cells (x : Act8) : List Value := [.int .i64 x.kind, .string x.a, .string x.b, .slice x.p x.data.length x.c, .int .i64 x.n, .int .i64 x.k]
def in64 (z : Int) : Prop := -9223372036854775808 ≤ z ∧ z ≤ 9223372036854775807
/-- What holds of an act that came in. -/
structure Fits8 (w : World) (x : Act8) : Prop where
  has : Has w (.slice x.p x.data.length x.c) x.data
  isB : isB8 x.data
  len : x.data.length ≤ 140737488351232
  sa : x.a.size ≤ 140737488351232
  sb : x.b.size ≤ 140737488351232
  kind : in64 x.kind
  n : in64 x.n
  k : in64 x.k
/-- A slice of acts, as it lies in memory. -/
def HasA8 (w : World) (v : Value) (xs : List Act8) : Prop :=
  ∃ p c, v = .slice p xs.length c ∧ xs.length ≤ c ∧ (p = none → c = 0) ∧
    (0 < xs.length → ∃ b o, p = some ⟨b, o, none⟩ ∧ b < w.heap.size ∧ ∀ i, i < xs.length →
      w.cell? ⟨b, o + i * 6, none⟩ = some (.int .i64 (xs.getD i default).kind) ∧ w.cell? ⟨b, o + i * 6 + 1, none⟩ = some (.string (xs.getD i default).a) ∧ w.cell? ⟨b, o + i * 6 + 2, none⟩ = some (.string (xs.getD i default).b) ∧
      w.cell? ⟨b, o + i * 6 + 3, none⟩ = some (.slice (xs.getD i default).p (xs.getD i default).data.length (xs.getD i default).c) ∧ w.cell? ⟨b, o + i * 6 + 4, none⟩ = some (.int .i64 (xs.getD i default).n) ∧ w.cell? ⟨b, o + i * 6 + 5, none⟩ = some (.int .i64 (xs.getD i default).k)) ∧
    ∀ x ∈ xs, Fits8 w x
theorem HasA8.below {w w' : World} {B : Nat} {v : Value} {xs : List Act8} (h : HasA8 w v xs) (hb : Below B w w') (hB : w.heap.size ≤ B) : HasA8 w' v xs := by
  obtain ⟨p, c, rfl, h1, h2, h3, h8⟩ := h
  refine ⟨p, c, rfl, h1, h2, fun h0 => ?_, fun x hx => ?_⟩
  · obtain ⟨b, o, rfl, hlt, hc⟩ := h3 h0
    have hcell : ∀ k, w'.cell? ⟨b, k, none⟩ = w.cell? ⟨b, k, none⟩ := fun k => hb.cell (p := ⟨b, k, none⟩) (Nat.lt_of_lt_of_le hlt hB)
    refine ⟨b, o, rfl, Nat.lt_of_lt_of_le hlt hb.size, fun i hi => ?_⟩
    simp only [hcell]
    exact hc i hi
  · have h9 := h8 x hx
    exact ⟨h9.has.below hb hB, h9.isB, h9.len, h9.sa, h9.sb, h9.kind, h9.n, h9.k⟩

/-- What few reckons of a row of acts. -/
def cost8 (x : Act8) : Nat := 1 + x.data.length / 50 + (x.a.size + x.b.size) / 50
def Few8 (xs : List Act8) : Prop := (xs.map cost8).sum ≤ 300
theorem few_len8 {xs : List Act8} (h : Few8 xs) : xs.length ≤ 300 := by
  have : ∀ l : List Act8, l.length ≤ (l.map cost8).sum := by
    intro l
    induction l with
    | nil => exact Nat.le_refl _
    | cons a l ih => rw [List.map_cons, List.sum_cons, List.length_cons]; unfold cost8; unfold cost8 at ih; omega
  exact Nat.le_trans (this xs) h
theorem few_size8 {xs : List Act8} (h : Few8 xs) {x : Act8} (hx : x ∈ xs) : x.data.length ≤ 15000 ∧ x.a.size + x.b.size ≤ 15000 := by
  have : ∀ l : List Act8, x ∈ l → cost8 x ≤ (l.map cost8).sum := by
    intro l
    induction l with
    | nil => exact fun h => by cases h
    | cons b l ih =>
      intro hm
      rw [List.map_cons, List.sum_cons]
      rcases List.mem_cons.1 hm with rfl | hm
      · omega
      · have := ih hm; omega
  have h1 := this xs hx
  unfold Few8 at h
  unfold cost8 at h1 h
  omega
theorem few_step8 (ds xa xb : Nat) (h0 : ds ≤ 140737488351232) (h1 : xa ≤ 140737488351232) (h2 : xb ≤ 140737488351232) :
    ∃ s q r : Nat, wrap64 ((xa : Int) + (xb : Int)) = (s : Int) ∧ (s : Int).tdiv 50 = (q : Int) ∧ (ds : Int).tdiv 50 = (r : Int) ∧ (q : Int) ≤ 281474976710656 ∧ (r : Int) ≤ 281474976710656 ∧ 1 + ds / 50 + (xa + xb) / 50 = 1 + r + q := by
  refine ⟨xa + xb, (xa + xb) / 50, ds / 50, ?_, ?_, ?_, by omega, by omega, rfl⟩
  · rw [IntWalk.wrap64_in ((xa : Int) + xb) (by omega)]; omega
  · rw [Int.tdiv_eq_ediv_of_nonneg (by omega)]; omega
  · rw [Int.tdiv_eq_ediv_of_nonneg (by omega)]; omega

set_option maxRecDepth 10000 in
set_option maxHeartbeats 4000000 in
theorem few8 (p : Option Addr) (n c : Nat) (xs : List Act8) (hlen : xs.length = n) (w : World) (hX : HasA8 w (.slice p n c) xs) (hn : (n : Int) ≤ 9223372036854775807) :
    Calls Try.prog 11 #[.slice p n c] w fun e w' => ∃ r : Bool, e = .returned (.bool r) ∧ (r = true → Few8 xs) ∧ Below w.heap.size w w' := by
  have hlen' : Hid (xs.length = n) := hlen
  clear hlen
  go_enter Try.func11, Try.ntmps11
  go_wp2
  go_loopw [8, 3] (fun t s wr => ∃ (j : Nat) (k : Nat), j ≤ n ∧ t = .int .i64 (j : Nat) ∧ s = .int .i64 (k : Nat) ∧ k ≤ 300 ∧ Hid (((xs.take j).map cost8).sum = k) ∧ Below w.heap.size w wr) (fun t _ _ => n - (intOf t).toNat)
  case atStart => exact ⟨0, 0, by omega, rfl, rfl, by omega, rfl, Below.refl _ _⟩
  case round =>
    obtain ⟨j, k, hj, rfl, rfl, hk, hs, hb⟩ := hrel
    by_cases hlt : j < n
    · obtain ⟨p', c', hpv, hcc, _, hcell, hfit⟩ := hX.below (hb.mono (Nat.le_refl _)) (Nat.le_refl _)
      simp only [Value.slice.injEq] at hpv
      obtain ⟨rfl, hnn, rfl⟩ := hpv
      rw [← hnn] at hcc hcell
      clear hnn
      obtain ⟨bb, oo, rfl, hbb, hcell⟩ := hcell (by omega)
      obtain ⟨c1, c2, c3, c4, c5, c6⟩ := hcell j (by omega)
      have hjx : j < xs.length := by rw [hlen'.out]; exact hlt
      have hf := hfit (xs.getD j default) (by rw [List.getD_eq_getElem?_getD, List.getElem?_eq_getElem hjx]; exact List.getElem_mem hjx)
      clear hcell hfit
      have hkk : Hid (xs.take j ++ [xs.getD j default] = xs.take (j + 1)) := by
        show _ = _
        rw [List.take_succ_eq_append_getElem hjx]
        simp [List.getD_eq_getElem?_getD, List.getElem?_eq_getElem hjx]
      clear hjx
      generalize xs.getD j default = act at *
      obtain ⟨kd, ka, kb, kp, kc, kdat, kn, kk⟩ := act
      obtain ⟨_, _, z0, z1, z2, _, _, _⟩ := hf
      obtain ⟨_, _, hdef, hdc, _⟩ := ‹Has wr _ _›
      simp only [Value.slice.injEq] at hdef
      obtain ⟨rfl, _, rfl⟩ := hdef
      dsimp only at c1 c2 c3 c4 c5 c6 z0 z1 z2 hdc
      have hsum : Hid (((xs.take (j + 1)).map cost8).sum = k + (1 + kdat.length / 50 + (ka.size + kb.size) / 50)) := by
        show _ = _
        rw [← hkk.out, List.map_append, List.sum_append, hs.out]; simp [cost8]
      obtain ⟨s, q, r, e1, e2, e3, e4, e5, e6⟩ := few_step8 kdat.length ka.size kb.size z0 z1 z2
      rw [e6] at hsum
      clear hkk hs z0 z1 z2 e6
      by_cases h6 : 300 < (k : Int) + (1 + r + q)
      · go_wp2
        go_ret
        exact .inl ⟨rfl, hb.alloc (by have := hb.size; omega) _⟩
      · go_wp2
        go_roundw
        case rel =>
          refine ⟨j + 1, k + (1 + r + q), by omega, by simp, by simp, by omega, ?_, hb.alloc (by have := hb.size; omega) _⟩
          exact hsum
        case measure => simp only [intOf]; omega
    · have hjn : j = n := by omega
      subst hjn
      go_wp2
      go_ret
      refine ⟨true, rfl, fun _ => ?_, hb⟩
      unfold Few8
      rw [← List.take_length (l := xs), hlen'.out, hs.out]
      exact hk
end Go.Proofs.Ytefgnehahedckaa
