/-
  The walk of corbellaw05.SwissNone.
-/
import Derived.Test.YtkjnifipepiahaaDoorSwNi
import Derived.Test.YtkjnifipepiahaaDoorSwM
namespace Go.Proofs.YtkjnifipepiahaaDoor
open Go.RowKit Go.Shelf

theorem infoP : (Tryd.prog.info? 61).map (fun i => (i.zero, i.size, i.bytes)) = some (some (.pointer none), 1, 8) := by kernel_rfl
theorem index_two (x y : Value) (W : World) : (Instr.index 62 (.agg #[x, y]) (.int .i64 0)).run Tryd.prog W = .ok x W ∧ (Instr.index 62 (.agg #[x, y]) (.int .i64 1)).run Tryd.prog W = .ok y W := by
  obtain ⟨i1, hi1, hz1, hs1, hb1⟩ := info_parts infoP
  constructor
  · simp [Instr.index, asIntOf, run_underlying Tryd.underlying62, sizeOf, typeInfo, hi1, part, go_sem]
  · simp [Instr.index, asIntOf, run_underlying Tryd.underlying62, sizeOf, typeInfo, hi1, hs1, part, go_sem]

set_option maxRecDepth 10000 in
set_option maxHeartbeats 4000000 in
theorem swissNone_any (key : ByteArray) (w : World) (hT : Tab w) (_hk : key.size ≤ maxLen) : Calls Tryd.prog 7 #[.string key] w fun e w' => e = .returned (.bool true) ∧ Below w.heap.size w w' := by
  have hw0 := hT.1
  go_enter Tryd.func7, Tryd.ntmps7
  go_wp2
  have hnew := heap_alloc_new w (.cells #[.int .u64 0, .int .u64 0, .slice none 0 0, .slice none 0 0, .int .i64 0, .int .i64 0] 60)
  have hB0 : Below w.heap.size w (w.alloc (.cells #[.int .u64 0, .int .u64 0, .slice none 0 0, .slice none 0 0, .int .i64 0, .int .i64 0] 60)) := (Below.refl _ w).alloc (Nat.le_refl _) _
  have hz0 : (w.alloc (.cells #[.int .u64 0, .int .u64 0, .slice none 0 0, .slice none 0 0, .int .i64 0, .int .i64 0] 60)).heap.size = w.heap.size + 1 := by simp
  generalize w.alloc (.cells #[.int .u64 0, .int .u64 0, .slice none 0 0, .slice none 0 0, .int .i64 0, .int .i64 0] 60) = X0 at *
  have c2 : X0.cell? ⟨w.heap.size, 2, none⟩ = some (.slice none 0 0) := by simp [World.cell?, hnew]
  clear hnew
  go_loopw [11] (fun t wr => ∃ j : Nat, j ≤ 2 ∧ t = .int .i64 (j : Nat) ∧ Below X0.heap.size X0 wr) (fun t _ => 2 - (intOf t).toNat)
  case atStart => exact ⟨0, by omega, rfl, Below.refl _ _⟩
  case round =>
    obtain ⟨j, hj, rfl, hb⟩ := hrel
    have hzr := hb.size
    have hix := index_two (.pointer none) (.pointer (some ⟨w.heap.size, 0, none⟩)) wr
    by_cases hlt : j < 2
    · obtain rfl | rfl : j = 0 ∨ j = 1 := by omega
      ·
        have hno : NoMap_i wr (.pointer none) := noMap_nil_i wr
        have hp := put_none_i none key (.int .i64 1) wr hno
        have hg := get_none_i none key wr hno
        go_wp2_with fail
        refine same_mono hp ?_
        go_wp2_with fail
        refine hg.mono ?_
        rintro e w2 ⟨rfl, hb2⟩
        have hno2 := hno.below hb2
        go_wp2_with fail
        refine (delete_none_i none key w2 hno2).mono ?_
        rintro e w3 ⟨rfl, hb3⟩
        have hno3 := hno2.below hb3
        go_wp2_with fail
        refine same_mono (len_none_i none w3 hno3) ?_
        go_wp2_with fail
        refine same_mono (tombs_none_i none w3 hno3) ?_
        go_wp2_with fail
        refine same_mono (controls_none_i none w3 hno3) ?_
        go_wp2_with fail
        refine (keys_none_i none w3 hno3).mono ?_
        rintro e w4 ⟨rfl, hb4⟩
        have hno4 := hno3.below hb4
        go_wp2_with fail
        refine same_mono (copy_none_i none w4 hno4) ?_
        have hB4 : Below X0.heap.size X0 w4 := hb.trans ((hb2.mono hb.size).trans ((hb3.mono (Nat.le_trans hb.size hb2.size)).trans (hb4.mono (Nat.le_trans (Nat.le_trans hb.size hb2.size) hb3.size))))
        clear hno hno2 hno3 hno4 hp hg hb2 hb3 hb4
        go_wp2
        go_roundw
        case rel => exact ⟨1, by omega, rfl, hB4⟩
        case measure => simp only [intOf]; omega
      ·
        have hno : NoMap_i wr (.pointer (some ⟨w.heap.size, 0, none⟩)) := noMap_zero_i wr w.heap.size (by omega) ((hb.cell (p := ⟨w.heap.size, 2, none⟩) (by show w.heap.size < _; omega)).trans c2)
        have hp := put_none_i (some ⟨w.heap.size, 0, none⟩) key (.int .i64 1) wr hno
        have hg := get_none_i (some ⟨w.heap.size, 0, none⟩) key wr hno
        go_wp2_with fail
        refine same_mono hp ?_
        go_wp2_with fail
        refine hg.mono ?_
        rintro e w2 ⟨rfl, hb2⟩
        have hno2 := hno.below hb2
        go_wp2_with fail
        refine (delete_none_i (some ⟨w.heap.size, 0, none⟩) key w2 hno2).mono ?_
        rintro e w3 ⟨rfl, hb3⟩
        have hno3 := hno2.below hb3
        go_wp2_with fail
        refine same_mono (len_none_i (some ⟨w.heap.size, 0, none⟩) w3 hno3) ?_
        go_wp2_with fail
        refine same_mono (tombs_none_i (some ⟨w.heap.size, 0, none⟩) w3 hno3) ?_
        go_wp2_with fail
        refine same_mono (controls_none_i (some ⟨w.heap.size, 0, none⟩) w3 hno3) ?_
        go_wp2_with fail
        refine (keys_none_i (some ⟨w.heap.size, 0, none⟩) w3 hno3).mono ?_
        rintro e w4 ⟨rfl, hb4⟩
        have hno4 := hno3.below hb4
        go_wp2_with fail
        refine same_mono (copy_none_i (some ⟨w.heap.size, 0, none⟩) w4 hno4) ?_
        have hB4 : Below X0.heap.size X0 w4 := hb.trans ((hb2.mono hb.size).trans ((hb3.mono (Nat.le_trans hb.size hb2.size)).trans (hb4.mono (Nat.le_trans (Nat.le_trans hb.size hb2.size) hb3.size))))
        clear hno hno2 hno3 hno4 hp hg hb2 hb3 hb4
        go_wp2
        go_roundw
        case rel => exact ⟨2, by omega, rfl, hB4⟩
        case measure => simp only [intOf]; omega
    · obtain rfl : j = 2 := by omega
      have hBr : Below w.heap.size w wr := hB0.trans (hb.mono (by omega))
      go_wp2_with fail
      refine (lives_any wr (hT.below hBr hw0)).mono ?_
      rintro e w5 ⟨rfl, hb5⟩
      go_wp2
      go_ret
      exact ⟨rfl, hBr.trans (hb5.mono hBr.size)⟩
end Go.Proofs.YtkjnifipepiahaaDoor
