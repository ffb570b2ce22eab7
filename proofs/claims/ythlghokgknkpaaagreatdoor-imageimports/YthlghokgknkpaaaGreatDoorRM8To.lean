import Derived.Test.YthlghokgknkpaaaGreatDoorW5To
import Derived.ProofKit
import Derived.OpenShut
import Derived.BigQuiet
import Derived.WalkSmall
import Derived.Test.YthlghokgknkpaaaGreatDoorImLTo
import Derived.Test.YthlghokgknkpaaaGreatDoorRaTo
import Derived.Test.YthlghokgknkpaaaGreatDoorRM6To
import Derived.Deep.RegionHeld3
/-
  From a row's own words to this proof's: a slice of integers that came in.
-/
namespace Go.Proofs.YthlghokgknkpaaaGreatDoor
open Go.ChangeShapes Go.WideShapes Go.ChangeAt Go.RowKit

/-- A slice of integers that came in: nil; or a row of 'cap' cells, the numbers zs, of which the first 'len' are its elements. -/
def IsRow (k : IntKind) (w : World) (a : Option Addr) (len cap : Nat) (zs : List Int) : Prop :=
  (a = none ∧ len = 0 ∧ cap = 0 ∧ zs = []) ∨
  ∃ x, a = some x ∧ len ≤ cap ∧ cap ≤ maxLen ∧ zs.length = cap ∧ (∀ i, i < zs.length → w.cell? (x.add i) = some (.int k (zs.getD i 0))) ∧ ∀ n ∈ zs, (Lit.int k n).wf = true

theorem IsRow.has {w : World} {a : Option Addr} {len cap : Nat} {zs : List Int} (h : IsRow .u8 w a len cap zs) : Has w (.slice a len cap) (zs.take len) ∧ IsB (zs.take len) ∧ (zs.take len).length = len := by
  rcases h with ⟨rfl, rfl, rfl, rfl⟩ | ⟨x, rfl, hl, _, hz, hc, hw⟩
  · exact ⟨⟨none, 0, rfl, by simp, fun _ => rfl, fun h => by simp at h⟩, by simpa using IsB.nil, rfl⟩
  · have hlen : (zs.take len).length = len := by rw [List.length_take]; omega
    refine ⟨⟨some x, cap, by rw [hlen], by rw [hlen]; exact hl, (fun h => by cases h), fun h0 => ?_⟩, fun y hy => bounds_u8 (hw y (List.mem_of_mem_take hy)), hlen⟩
    rw [hlen] at h0 ⊢
    obtain ⟨b, o, s⟩ := x
    obtain rfl : s = none := by simpa [Addr.add] using World.cell?_spot (hc 0 (by omega))
    refine ⟨b, o, rfl, World.block_lt_of_cell? w _ (hc 0 (by omega)), fun i hi => ?_⟩
    rw [← Go.WideShapes.add_plain, hc i (by omega)]
    simp [hi]
theorem IsRow.len_le {k : IntKind} {w : World} {a : Option Addr} {len cap : Nat} {zs : List Int} (h : IsRow k w a len cap zs) : (len : Int) ≤ 9223372036854775807 := by
  rcases h with ⟨rfl, rfl, rfl, rfl⟩ | ⟨x, rfl, hl, hm, _⟩
  · omega
  · unfold maxLen at hm; omega
end Go.Proofs.YthlghokgknkpaaaGreatDoor

/-
  Contracts: corbelref01.Lend, Kept.
-/
namespace Go.Proofs.YthlghokgknkpaaaGreatDoor
open Go.RowKit

/-- The greater memory, of which j bytes have been laid. -/
def lentB (xs : List Int) (j : Nat) : List Int := 165 :: (xs.take j ++ List.replicate (xs.length - j) 0) ++ [90]
theorem lent_length (xs : List Int) (j : Nat) (h : j ≤ xs.length) : (lentB xs j).length = xs.length + 2 := by simp [lentB]; omega
theorem lent_zero (xs : List Int) : ((List.replicate (xs.length + 2) (0 : Int)).set 0 165).set (xs.length + 1) 90 = lentB xs 0 := by
  unfold lentB
  rw [show List.replicate (xs.length + 2) (0 : Int) = 0 :: (List.replicate xs.length 0 ++ [0]) from by rw [List.replicate_succ, List.replicate_succ']]
  simp
theorem lent_step (xs : List Int) (j : Nat) (h : j < xs.length) : (lentB xs j).set (j + 1) (xs.getD j 0) = lentB xs (j + 1) := by
  unfold lentB
  obtain ⟨k, hk⟩ : ∃ k, xs.length - j = k + 1 := ⟨xs.length - j - 1, by omega⟩
  have hl : (xs.take j).length = j := by rw [List.length_take]; omega
  rw [hk, show xs.length - (j + 1) = k by omega, List.take_succ_eq_append_getElem h, List.replicate_succ]
  simp only [List.cons_append, List.set_cons_succ, List.append_assoc]
  rw [List.set_append_right _ _ (by omega), hl]
  simp [List.getElem?_eq_getElem h]
theorem lent_end (xs : List Int) : lentB xs xs.length = 165 :: (xs ++ [90]) := by simp [lentB]

theorem made_zero (n : Nat) : (madeCells (Value.int .u8 0).cells (n * 1)).toList = cellsB (List.replicate n 0) := by
  unfold madeCells cellsB
  rw [Array.toList_map, Array.toList_range, Nat.mul_one, List.map_replicate]
  apply List.ext_getElem
  · simp
  · intro i h1 h2
    simp [Value.cells, Nat.mod_one]

theorem made_owns (w : World) (B : Nat) (e : TypeId) (n : Nat) (h : w.ownsRow B e 1 (.slice (some ⟨B, 0, none⟩) (n + 2) (n + 2)) (n + 2) (madeCells (Value.int .u8 0).cells ((n + 2) * 1)).toList) :
    Owns w B e (.slice (some ⟨B, 0, none⟩) (n + 2) (n + 2)) (List.replicate (n + 2) 0) := by
  unfold Owns
  rw [List.length_replicate, ← made_zero]
  exact h
theorem made_lt (w : World) (B : Nat) (e : TypeId) (n : Nat) (h : w.ownsRow B e 1 (.slice (some ⟨B, 0, none⟩) (n + 2) (n + 2)) (n + 2) (madeCells (Value.int .u8 0).cells ((n + 2) * 1)).toList) : B < w.heap.size :=
  (World.ownsRow.lt h B rfl).2
theorem made_facts (w : World) (B : Nat) (e : TypeId) (n : Nat) (h : w.ownsRow B e 1 (.slice (some ⟨B, 0, none⟩) (n + 2) (n + 2)) (n + 2) (madeCells (Value.int .u8 0).cells ((n + 2) * 1)).toList) :
    w.cell? ⟨B, 0, none⟩ = some (.int .u8 0) ∧ w.cell? ⟨B, n + 1, none⟩ = some (.int .u8 0) ∧ w.frozen? ⟨B, 0, none⟩ = false ∧ w.frozen? ⟨B, n + 1, none⟩ = false := by
  have ho := made_owns w B e n h
  have c := fun j (hj : j < n + 2) => World.ownsRow.cellAt h j (by omega)
  refine ⟨?_, ?_, World.ownsRow.frozenAt h 0, World.ownsRow.frozenAt h (n + 1)⟩
  · rw [c 0 (by omega), made_zero]; simp [cellsB]
  · rw [c (n + 1) (by omega), made_zero]; simp [cellsB]

set_option maxRecDepth 100000 in
set_option maxHeartbeats 1000000 in
theorem lend_any (v : Value) (xs : List Int) (w : World) (hv : Has w v xs) (hl : xs.length ≤ 1099511627776) :
    Calls Tryz.prog 22 #[v] w fun e w' => ∃ v1 v2, e = .returned (.tuple #[v1, v2]) ∧ Has w' v1 (165 :: (xs ++ [90])) ∧ Has w' v2 xs ∧ Below w.heap.size w w' := by
  obtain ⟨i0, hi, hz0, hz1, hz2⟩ := info_parts info8c
  obtain ⟨p, c, rfl, hc, hnone, hcell⟩ := id hv
  clear hnone
  go_enter Tryz.func22, Tryz.ntmps22
  go_wp2_with (at_make; refine wpList_make_full _ rfl _ _ 48 rfl w.heap.size 5 i0 (.int .u8 0) 1 Tryz.underlying48 hi hz0 hz1 _ _ _ _ (xs.length + 2) rfl rfl (by omega) (by omega) (by rw [hz2]; omega) (by unfold maxLen; omega) (Nat.le_refl _) ?_; intro w0 hown0 hgrow0; obtain ⟨c0, c1, f0, f1⟩ := made_facts w0 _ _ xs.length hown0)
  have ho0 := made_owns w0 _ _ xs.length hown0
  have hb0 : Below w.heap.size w w0 := (Below.refl w.heap.size w).grown hgrow0 (Nat.le_refl _) (fun k h => by cases h)
  have hbig : w.heap.size < w0.heap.size := made_lt w0 _ _ xs.length hown0
  clear hown0 hgrow0 c0 c1 f0 f1
  have hs1 := (Owns.store (xs := List.replicate (xs.length + 2) 0) (by rw [List.length_replicate]; exact ho0) 0 165).1
  have hs2 := (Owns.store hs1 (xs.length + 1) 90).1
  rw [lent_zero, List.length_set, List.length_replicate] at hs2
  have hbs : Below w.heap.size w ((w0.setCell ⟨w.heap.size, 0, none⟩ (.int .u8 165)).setCell ⟨w.heap.size, xs.length + 1, none⟩ (.int .u8 90)) := (hb0.setCell (Nat.le_refl _) _).setCell (Nat.le_refl _) _
  have HS2 : Hid (Owns ((w0.setCell ⟨w.heap.size, 0, none⟩ (.int .u8 165)).setCell ⟨w.heap.size, xs.length + 1, none⟩ (.int .u8 90)) w.heap.size 5 (.slice (some ⟨w.heap.size, 0, none⟩) (xs.length + 2) (xs.length + 2)) (lentB xs 0)) := hs2
  have HBS := show Hid _ from hbs
  clear hs1 hs2 hbs ho0 hb0
  generalize hBw : w.heap.size = B at *
  have HBw : Hid (w.heap.size = B) := hBw
  clear hBw
  go_loopw [20] (fun i wr => ∃ j : Nat, j ≤ xs.length ∧ i = .int .i64 j ∧ Owns wr B 5 (.slice (some ⟨B, 0, none⟩) (xs.length + 2) (xs.length + 2)) (lentB xs j) ∧ Below B w wr) (fun i _ => xs.length - (intOf i).toNat)
  case atStart => exact ⟨0, Nat.zero_le _, rfl, HS2.out, HBS.out⟩
  case round =>
    obtain ⟨j, hj, rfl, hor, hbr⟩ := hrel
    by_cases hlt : j < xs.length
    · obtain ⟨b, o, rfl, hbl, hcl⟩ := hcell (by omega)
      have h1 := (hbr.cell (p := ⟨b, o + j, none⟩) hbl).trans (hcl j hlt)
      have hor' : wr.ownsRow B 5 1 (.slice (some ⟨B, 0, none⟩) (xs.length + 2) (xs.length + 2)) (xs.length + 2) (cellsB (lentB xs j)) := by
        have h := hor
        unfold Owns at h
        rwa [lent_length xs j hj] at h
      have hcl1 := World.ownsRow.cellAt hor' (j + 1) (by omega)
      have hfr1 := World.ownsRow.frozenAt hor' (j + 1)
      clear hor'
      obtain ⟨cv, hcv⟩ : ∃ cv, (cellsB (lentB xs j))[j + 1]? = some cv := ⟨_, List.getElem?_eq_getElem (by rw [cellsB_length, lent_length xs j hj]; omega)⟩
      rw [hcv] at hcl1
      have hst := (Owns.store (xs := lentB xs j) (by rw [lent_length xs j hj]; exact hor) (j + 1) (xs.getD j 0)).1
      rw [lent_step xs j hlt, lent_length xs j hj] at hst
      have HST := show Hid _ from hst
      clear hst hcv hor hcell hcl
      generalize xs.getD j 0 = x at *
      go_wp2
      go_roundw
      case rel => exact ⟨j + 1, by omega, by go_num, HST.out, hbr.setCell (Nat.le_refl _) _⟩
      case measure => simp [intOf]; omega
    · obtain rfl : j = xs.length := by omega
      rw [lent_end] at hor
      have hv1 := hor.has
      have hl2 : (165 :: (xs ++ [90])).length = xs.length + 2 := by simp only [List.length_cons, List.length_append, List.length_nil]
      have hv2 : Has wr (.slice (some ⟨B, 0, none⟩) (165 :: (xs ++ [90])).length (xs.length + 2)) (165 :: (xs ++ [90])) := by rw [hl2]; exact hv1
      have hv3 := hv2.cutAt 1 xs.length (by rw [hl2]; omega)
      clear hl2
      rw [show ((165 :: (xs ++ [90])).drop 1).take xs.length = xs from by simp] at hv3
      have HV1 : Hid (Has wr (.slice (some ⟨B, 0, none⟩) (xs.length + 2) (xs.length + 2)) (165 :: (xs ++ [90]))) := hv1
      have HV3 : Hid (Has wr (.slice (some ⟨B, 1, none⟩) xs.length (xs.length + 1)) xs) := (by simpa using hv3 : Has wr (.slice (some ⟨B, 1, none⟩) xs.length (xs.length + 1)) xs)
      clear hv1 hv2 hv3 hor hcell
      go_wp2_with fail
      go_quiet (fail)
      go_wp2
      go_ret2
      exact ⟨_, _, rfl, HV1.out.below (below_drewN (Below.refl _ _) _) (Nat.le_refl _), HV3.out.below (below_drewN (Below.refl _ _) _) (Nat.le_refl _), by rw [HBw.out]; exact below_drewN hbr _⟩

set_option maxRecDepth 100000 in
set_option maxHeartbeats 2000000 in
theorem kept_any (v1 v : Value) (xs : List Int) (w : World) (h1 : Has w v1 (165 :: (xs ++ [90]))) (hv : Has w v xs) (hl : xs.length ≤ 1099511627776) :
    Calls Tryz.prog 25 #[v1, v] w fun e w' => e = .returned (.bool true) ∧ Below w.heap.size w w' := by
  have hl2 : (165 :: (xs ++ [90])).length = xs.length + 2 := by simp only [List.length_cons, List.length_append, List.length_nil]
  obtain ⟨p1, c1, rfl, hc1, _, hcell1⟩ := id h1
  obtain ⟨b1, o1, rfl, hb1, hcl1⟩ := hcell1 (by rw [hl2]; omega)
  obtain ⟨p, c, rfl, hc, _, _⟩ := id hv
  have e0 := hcl1 0 (by rw [hl2]; omega)
  have e1 := hcl1 (xs.length + 1) (by rw [hl2]; omega)
  rw [show (165 :: (xs ++ [90])).getD 0 0 = 165 from rfl, Nat.add_zero] at e0
  rw [show (165 :: (xs ++ [90])).getD (xs.length + 1) 0 = 90 from by simp] at e1
  have hcut := h1.cutAt 1 xs.length (by rw [hl2]; omega)
  rw [show ((165 :: (xs ++ [90])).drop 1).take xs.length = xs from by simp] at hcut
  have cv1 := fun n => (hcut.below (below_drewN (Below.refl w.heap.size w) n) (Nat.le_refl _)).conv (P := Tryz.prog) 48 5 9 Tryz.underlying48 Tryz.underlying5 Tryz.underlying9
  have cv2 := fun n => (hv.below (below_drewN (Below.refl w.heap.size w) n) (Nat.le_refl _)).conv (P := Tryz.prog) 48 5 9 Tryz.underlying48 Tryz.underlying5 Tryz.underlying9
  have d1 : (((xs.length : Int) + 2 == (xs.length : Int) + 2) = true) := by simp
  rw [hl2] at hc1 ⊢
  have hq : ¬ c1 = 1 := by omega
  clear hcell1 hcl1 hcut h1 hv hl2
  go_enter Tryz.func25, Tryz.ntmps25
  go_wp2_with fail
  go_quiet (fail)
  go_wp2
  go_ret
  exact ⟨rfl, below_drewN (Below.refl _ _) _⟩
end Go.Proofs.YthlghokgknkpaaaGreatDoor

/-
  Contract: corbellaw05.alike, of two maps that are the same as lists.
-/
namespace Go.Proofs.YthlghokgknkpaaaGreatDoor
open Go.RowKit Go.Shelf

theorem Lies.wordsR {tM tS : TypeId} {w : World} {b bw bs : Nat} {M : SM} (h : Lies tM tS w b bw bs M) : ∃ cw, w.cell? ⟨b, 2, none⟩ = some (.slice (some ⟨bw, 0, none⟩) M.ws.length cw) ∧ HasW w (.slice (some ⟨bw, 0, none⟩) M.ws.length cw) M.ws := by
  obtain ⟨cw, cs, h1, h2, h3⟩ := h.row
  refine ⟨cw, ?_, hasW_owns h2⟩
  unfold World.cell?
  dsimp only
  rw [h1]
  rfl
theorem words_at {tM tS : TypeId} {w : World} {b bw bs cw : Nat} {M : SM} {q : Option Addr} (h : Lies tM tS w b bw bs M) (hc : w.cell? ⟨b, 2, none⟩ = some (.slice q M.ws.length cw)) : HasW w (.slice q M.ws.length cw) M.ws := by
  obtain ⟨cw', h1, h2⟩ := h.wordsR
  rw [hc] at h1
  simp only [Option.some.injEq] at h1
  rw [h1]
  exact h2
theorem on_below {w W : World} (h : Below w.drew.heap.size w.drew W) : Below w.heap.size w W := ⟨h.os, h.tape, h.output, h.size, h.block⟩

theorem hold3 {w : World} {c : Nat} {x y z : Value} (h4 : w.cell? ⟨c, 4, none⟩ = some x) (h5 : w.cell? ⟨c, 5, none⟩ = some y) (h2 : w.cell? ⟨c, 2, none⟩ = some z) : w.drew.cell? ⟨c, 4, none⟩ = some x ∧ w.drew.cell? ⟨c, 5, none⟩ = some y ∧ w.drew.cell? ⟨c, 2, none⟩ = some z ∧ Below w.heap.size w w.drew :=
  ⟨h4, h5, h2, ⟨rfl, rfl, rfl, Nat.le_refl _, fun _ _ => rfl⟩⟩
theorem keep3 {w w1 w2 : World} {c : Nat} {x y z : Value} (hc : c < w.heap.size) (hb : Below w1.heap.size w1 w2) (h : w1.cell? ⟨c, 4, none⟩ = some x ∧ w1.cell? ⟨c, 5, none⟩ = some y ∧ w1.cell? ⟨c, 2, none⟩ = some z ∧ Below w.heap.size w w1) : w2.cell? ⟨c, 4, none⟩ = some x ∧ w2.cell? ⟨c, 5, none⟩ = some y ∧ w2.cell? ⟨c, 2, none⟩ = some z ∧ Below w.heap.size w w2 := by
  obtain ⟨h4, h5, h2, hw⟩ := h
  have hz := hw.size
  exact ⟨(hb.cell (p := ⟨c, 4, none⟩) (by show c < _; omega)).trans h4, (hb.cell (p := ⟨c, 5, none⟩) (by show c < _; omega)).trans h5, (hb.cell (p := ⟨c, 2, none⟩) (by show c < _; omega)).trans h2, hw.trans (hb.mono hz)⟩
theorem held3 {w w1 : World} {c : Nat} {x y z : Value} (h : w1.cell? ⟨c, 4, none⟩ = some x ∧ w1.cell? ⟨c, 5, none⟩ = some y ∧ w1.cell? ⟨c, 2, none⟩ = some z ∧ Below w.heap.size w w1) : Below w.heap.size w w1 := h.2.2.2
theorem held2' {w w1 : World} {c : Nat} {x y z : Value} (h : w1.cell? ⟨c, 4, none⟩ = some x ∧ w1.cell? ⟨c, 5, none⟩ = some y ∧ w1.cell? ⟨c, 2, none⟩ = some z ∧ Below w.heap.size w w1) : w1.cell? ⟨c, 2, none⟩ = some z := h.2.2.1
end Go.Proofs.YthlghokgknkpaaaGreatDoor
