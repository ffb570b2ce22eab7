/-
  Contracts: swiss.empty[bool], New[bool].
-/
import Derived.Test.YtkjnifipepiahaaDoorSwDb
import Derived.Deep.OwnRows
import Derived.Deep.RegionWith
import Derived.Laws.MakeOwn
namespace Go.Proofs.YtkjnifipepiahaaDoor
open Go.RowKit Go.Shelf

theorem infoW_b : (Tryd.prog.info? 22).map (fun i => (i.zero, i.size, i.bytes)) = some (some (.int .u64 0), 1, 8) := by kernel_rfl
theorem infoS_b : (Tryd.prog.info? 97).map (fun i => (i.zero, i.size, i.bytes)) = some (some (.agg #[.string ⟨#[]⟩, (.bool false)]), 2, 24) := by kernel_rfl

def SM.half_b (k0 k1 : Int) (z : Value) (g j : Nat) : SM := ⟨k0, k1, List.replicate j noneW ++ List.replicate (g - j) 0, List.replicate (8 * g) (ByteArray.empty, z), 0, 0⟩

set_option maxRecDepth 100000 in
set_option maxHeartbeats 4000000 in
theorem empty_any_b (k0 k1 : Int) (g : Nat) (hg : isGood (g : Int) = true) (w : World) (h0 : 0 < w.heap.size) :
    Calls Tryd.prog 72 #[.agg #[.int .u64 k0, .int .u64 k1], .int .i64 (g : Int)] w fun e w' => ∃ b bw bs, e = .returned (.pointer (some ⟨b, 0, none⟩)) ∧
      Lies 100 97 w' b bw bs (SM.empty k0 k1 (.bool false) g) ∧ w.heap.size ≤ b ∧ w.heap.size ≤ bw ∧ w.heap.size ≤ bs ∧ Below w.heap.size w w' := by
  have hr := good_range hg
  obtain ⟨i1, hi1, hz1, hs1, hb1⟩ := info_parts infoW_b
  obtain ⟨i2, hi2, hz2, hs2, hb2⟩ := info_parts infoS_b
  have hmk1 := fun W : World => run_make (P := Tryd.prog) W 48 22 i1 _ Tryd.underlying48 hi1 hz1 .i64 .i64 (g : Int) (g : Int) (by omega) (by omega) (by rw [hb1]; omega) (by omega)
  have hmk2 := fun W : World => run_make (P := Tryd.prog) W 98 97 i2 _ Tryd.underlying98 hi2 hz2 .i64 .i64 (8 * (g : Int)) (8 * (g : Int)) (by omega) (by omega) (by rw [hb2]; omega) (by omega)
  rw [hs1] at hmk1
  rw [hs2] at hmk2
  simp only [Int.toNat_natCast, show (8 * (g : Int)).toNat = 8 * g by omega, Nat.mul_one, Value.cells] at hmk1 hmk2
  have hA1 : (madeCells #[.int .u64 0] g).toList = List.replicate g (.int .u64 0) := toList_madeCells_one _ _
  have hA2 : (madeCells #[.string ⟨#[]⟩, (.bool false)] (8 * g * 2)).toList = cellsS (List.replicate (8 * g) (ByteArray.empty, (.bool false))) := made_two _ _ _ _ rfl
  have hA3 : (madeCells #[.int .u64 0] g).size = g := size_madeCells _ _
  have hA4 : (madeCells #[.string ⟨#[]⟩, (.bool false)] (8 * g * 2)).size = 8 * g * 2 := size_madeCells _ _
  generalize madeCells #[.int .u64 0] g = A1 at *
  generalize madeCells #[.string ⟨#[]⟩, (.bool false)] (8 * g * 2) = A2 at *
  clear hi1 hi2 hz1 hz2 hs1 hs2 hb1 hb2 i1 i2
  go_enter Tryd.func72, Tryd.ntmps72
  go_wp2
  refine Code.wp_mono (Q := fun e a Y => e = .normal ∧ ∃ b bw bs : Nat, a = { tmps := #[.agg #[.int .u64 k0, .int .u64 k1], .int .i64 (g : Int), .pointer (some ⟨w.heap.size, 0, none⟩), undef, .pointer none, .pointer (some ⟨b, 0, none⟩), undef, .agg #[.int .u64 k0, .int .u64 k1], .int .i64 (g : Int), .slice (some ⟨bw, 0, none⟩) g g, .int .i64 (g : Int), .int .i64 (8 * (g : Int)), .slice (some ⟨bs, 0, none⟩) (8 * g) (8 * g), .agg #[.int .u64 k0, .int .u64 k1, .slice (some ⟨bw, 0, none⟩) g g, .slice (some ⟨bs, 0, none⟩) (8 * g) (8 * g), .int .i64 0, .int .i64 0], .pointer (some ⟨b, 0, none⟩), undef, undef, undef, undef, undef, undef, undef, undef, undef, undef, undef, undef, undef, undef, undef, undef], defers := [] } ∧
    Y.heap[b]? = some (.cells #[.int .u64 k0, .int .u64 k1, .slice (some ⟨bw, 0, none⟩) g g, .slice (some ⟨bs, 0, none⟩) (8 * g) (8 * g), .int .i64 0, .int .i64 0] 100 (0, 0)) ∧ Y.heap[bw]? = some (.cells A1 22 (0, 0)) ∧ Y.heap[bs]? = some (.cells A2 97 (0, 0)) ∧
    w.heap.size ≤ b ∧ w.heap.size ≤ bw ∧ w.heap.size ≤ bs ∧ b ≠ bw ∧ b ≠ bs ∧ bw ≠ bs ∧ Below w.heap.size w Y) ?_ ?_
  · rintro e a Y ⟨rfl, b, bw, bs, rfl, hb, hw, hs, g1, g2, g3, n1, n2, n3, hbel⟩
    have hlie : Lies 100 97 Y b bw bs (SM.half_b k0 k1 (.bool false) g 0) := by
      refine ⟨⟨g, 8 * g, ?_, ⟨?_, .inr ⟨bw, g, A1, ?_, Nat.zero_le _, hw, ?_, ?_, by rw [hA3, Nat.mul_one], ?_⟩⟩, ⟨?_, .inr ⟨bs, 8 * g, A2, ?_, Nat.zero_le _, hs, ?_, ?_, hA4, ?_⟩⟩⟩, ⟨n1, n2, n3⟩, by omega⟩
      · simp only [SM.half_b, List.replicate_zero, List.nil_append, List.length_replicate, Nat.sub_zero]
        exact hb
      · rw [cellsW_len, Nat.mul_one]
      · simp [SM.half_b]
      · simp [SM.half_b]
      · unfold maxLen; omega
      · simp only [SM.half_b, List.replicate_zero, List.nil_append, List.length_replicate, Nat.sub_zero, Nat.mul_one]
        rw [hA1, List.take_of_length_le (by simp)]
        simp [cellsW]
      · rw [cellsS_len]
      · simp [SM.half_b]
      · simp [SM.half_b]
      · unfold maxLen; omega
      · simp only [SM.half_b, List.length_replicate]
        rw [hA2, List.take_of_length_le (by rw [cellsS_len, List.length_replicate]; omega)]
    have hlw : ∀ j, j ≤ g → (SM.half_b k0 k1 (.bool false) g j).ws.length = g := fun j hj => by simp [SM.half_b]; omega
    obtain ⟨cw, cs, _, _, c2, _, _, _, _, _⟩ := hlie.cells
    rw [hlw 0 (by omega)] at c2
    clear hb hw hs hA1 hA2 hA3 hA4 hmk1 hmk2
    go_wp2
    go_loopw [20] (fun t wr => ∃ j : Nat, j ≤ g ∧ t = .int .i64 (j : Nat) ∧ Lies 100 97 wr b bw bs (SM.half_b k0 k1 (.bool false) g j) ∧ Below w.heap.size w wr) (fun t _ => g - (intOf t).toNat)
    case atStart => exact ⟨0, by omega, rfl, hlie, hbel⟩
    case round =>
      obtain ⟨j, hj, rfl, hl, hbr⟩ := hrel
      obtain ⟨cw', cs', _, _, c2', _, _, _, _, _⟩ := hl.cells
      rw [hlw j hj] at c2'
      by_cases hlt : j < g
      · have kw := hl.word j (by rw [hlw j hj]; exact hlt)
        have fw := hl.freeW j
        have hset := hl.setW j noneW
        have hnext : Hid ({ SM.half_b k0 k1 (.bool false) g j with ws := (SM.half_b k0 k1 (.bool false) g j).ws.set j noneW } = SM.half_b k0 k1 (.bool false) g (j + 1)) := by
          show _ = _
          unfold SM.half_b
          congr 1
          rw [show g - j = (g - (j + 1)) + 1 by omega, List.replicate_succ, List.set_append_right _ _ (by simp), List.length_replicate, Nat.sub_self, List.set_cons_zero, List.replicate_succ', List.append_assoc]
          rfl
        rw [hnext.out] at hset
        go_wp2
        go_roundw
        case rel => exact ⟨j + 1, by omega, by simp, hset, hbr.setCell (p := ⟨bw, j, none⟩) g2 _⟩
        case measure => simp only [intOf]; omega
      · obtain rfl : j = g := by omega
        have he : SM.half_b k0 k1 (.bool false) j j = SM.empty k0 k1 (.bool false) j := by
          unfold SM.half_b SM.empty
          rw [Nat.sub_self, List.replicate_zero, List.append_nil]
        rw [he] at hl
        clear he hlw hlie
        go_wp2
        go_ret
        exact ⟨b, bw, bs, rfl, hl, g1, g2, g3, hbr⟩
  · have hN : (w.alloc (.cells #[.int .u64 k0, .int .u64 k1] 24)).heap.size = w.heap.size + 1 := by simp
    have hU : Below w.heap.size w (w.alloc (.cells #[.int .u64 k0, .int .u64 k1] 24)) := (Below.refl _ _).alloc (Nat.le_refl _) _
    have h3 := fun o1 o2 o3 => three_new (w.alloc (.cells #[.int .u64 k0, .int .u64 k1] 24)) (w.heap.size + 1) hN o1 o2 o3
    go_region
    all_goals first
      | exact ⟨rfl, w.heap.size + 1 + 1 + 1, w.heap.size + 1, w.heap.size + 1 + 1, rfl, (h3 _ _ _).2.2.1, (h3 _ _ _).1, (h3 _ _ _).2.1, by omega, by omega, by omega, by omega, by omega, by omega, (hU.trans ((h3 _ _ _).2.2.2.mono (by omega))).drew⟩
      | exact ⟨rfl, w.heap.size + 1 + 1 + 1, w.heap.size + 1 + 1, w.heap.size + 1, rfl, (h3 _ _ _).2.2.1, (h3 _ _ _).2.1, (h3 _ _ _).1, by omega, by omega, by omega, by omega, by omega, by omega, (hU.trans ((h3 _ _ _).2.2.2.mono (by omega))).drew⟩
end Go.Proofs.YtkjnifipepiahaaDoor
