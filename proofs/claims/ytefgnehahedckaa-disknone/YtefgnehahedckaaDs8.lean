/-
  A disk that no call made; the walk of corbellaw08.DiskNone.
-/
import Derived.Test.YtefgnehahedckaaDs5
namespace Go.Proofs.Ytefgnehahedckaa
open Go.RowKit Go.Maps

theorem infoP8 : (Try.prog.info? 23).map (fun i => (i.zero, i.size, i.bytes)) = some (some (.pointer none), 1, 8) := by kernel_rfl
theorem index_two8 (x y : Value) (W : World) : (Instr.index 58 (.agg #[x, y]) (.int .i64 0)).run Try.prog W = .ok x W ∧ (Instr.index 58 (.agg #[x, y]) (.int .i64 1)).run Try.prog W = .ok y W := by
  obtain ⟨i1, hi1, hz1, hs1, hb1⟩ := info_parts infoP8
  constructor
  · simp [Instr.index, asIntOf, run_underlying Try.underlying58, sizeOf, typeInfo, hi1, part, go_sem]
  · simp [Instr.index, asIntOf, run_underlying Try.underlying58, sizeOf, typeInfo, hi1, hs1, part, go_sem]
/-- No call made the disk at which this points. -/
def Dead8 (q : Value) (w : World) : Prop := Calls Try.prog 59 #[q] w fun e w' => e = .returned (.bool false) ∧ w' = w
section
variable {q : Value} {w : World}
theorem ready_dead (h : Dead8 q w) : Calls Try.prog 51 #[q] w fun e w' => e = .returned (.int .i64 1) ∧ w' = w := by
  go_enter Try.func51, Try.ntmps51
  go_wp2_with fail
  refine same_mono h ?_
  go_wp2
  go_ret
  exact ⟨rfl, rfl⟩
theorem find_dead (h : Dead8 q w) (x : ByteArray) : Calls Try.prog 57 #[q, .string x] w fun e w' => e = .returned (.tuple #[.pointer none, .int .i64 1]) ∧ w' = w := by
  go_enter Try.func57, Try.ntmps57
  go_wp2_with fail
  refine same_mono (ready_dead h) ?_
  go_wp2
  go_ret2
  exact ⟨rfl, rfl⟩
theorem create_dead (h : Dead8 q w) (x : ByteArray) : Calls Try.prog 17 #[q, .string x] w fun e w' => e = .returned (.int .i64 1) ∧ w' = w := by
  go_enter Try.func17, Try.ntmps17
  go_wp2_with fail
  refine same_mono (ready_dead h) ?_
  go_wp2
  go_ret
  exact ⟨rfl, rfl⟩
theorem append_dead (h : Dead8 q w) (x : ByteArray) (p : Option Addr) (n c : Nat) : Calls Try.prog 20 #[q, .string x, .slice p n c] w fun e w' => e = .returned (.int .i64 1) ∧ w' = w := by
  go_enter Try.func20, Try.ntmps20
  go_wp2_with fail
  refine same_mono (find_dead h x) ?_
  go_wp2
  go_ret
  exact ⟨rfl, rfl⟩
theorem sync_dead (h : Dead8 q w) : Calls Try.prog 18 #[q] w fun e w' => e = .returned (.int .i64 1) ∧ w' = w := by
  go_enter Try.func18, Try.ntmps18
  go_wp2_with fail
  refine same_mono (ready_dead h) ?_
  go_wp2
  go_ret
  exact ⟨rfl, rfl⟩
theorem rename_dead (h : Dead8 q w) (x y : ByteArray) : Calls Try.prog 25 #[q, .string x, .string y] w fun e w' => e = .returned (.int .i64 1) ∧ w' = w := by
  go_enter Try.func25, Try.ntmps25
  go_wp2_with fail
  refine same_mono (ready_dead h) ?_
  go_wp2
  go_ret
  exact ⟨rfl, rfl⟩
theorem remove_dead (h : Dead8 q w) (x : ByteArray) : Calls Try.prog 26 #[q, .string x] w fun e w' => e = .returned (.int .i64 1) ∧ w' = w := by
  go_enter Try.func26, Try.ntmps26
  go_wp2_with fail
  refine same_mono (find_dead h x) ?_
  go_wp2
  go_ret
  exact ⟨rfl, rfl⟩
theorem read_dead (h : Dead8 q w) (x : ByteArray) : Calls Try.prog 23 #[q, .string x] w fun e w' => e = .returned (.tuple #[.slice none 0 0, .int .i64 1]) ∧ w' = w := by
  go_enter Try.func23, Try.ntmps23
  go_wp2_with fail
  refine same_mono (find_dead h x) ?_
  go_wp2
  go_ret2
  exact ⟨rfl, rfl⟩
theorem arm_dead (h : Dead8 q w) (n k : Int) : Calls Try.prog 28 #[q, .int .i64 n, .int .i64 k] w fun e w' => e = .returned (.int .i64 1) ∧ w' = w := by
  go_enter Try.func28, Try.ntmps28
  go_wp2_with fail
  refine same_mono (ready_dead h) ?_
  go_wp2
  go_ret
  exact ⟨rfl, rfl⟩
theorem spoil_dead (h : Dead8 q w) (x : ByteArray) (n k : Int) : Calls Try.prog 32 #[q, .string x, .int .i64 n, .int .i64 k] w fun e w' => e = .returned (.int .i64 1) ∧ w' = w := by
  go_enter Try.func32, Try.ntmps32
  go_wp2_with fail
  refine same_mono (find_dead h x) ?_
  go_wp2
  go_ret
  exact ⟨rfl, rfl⟩
theorem crash_dead (h : Dead8 q w) (n : Int) : Calls Try.prog 21 #[q, .int .i64 n] w fun e w' => (∃ v, e = .returned v) ∧ w' = w := by
  go_enter Try.func21, Try.ntmps21
  go_wp2_with fail
  refine same_mono (h) ?_
  go_wp2
  refine bodyPost_ret (results_none rfl _ _ _) rfl ?_
  exact ⟨⟨_, rfl⟩, rfl⟩
theorem start_dead (h : Dead8 q w) : Calls Try.prog 22 #[q] w fun e w' => (∃ v, e = .returned v) ∧ w' = w := by
  go_enter Try.func22, Try.ntmps22
  go_wp2_with fail
  refine same_mono (h) ?_
  go_wp2
  refine bodyPost_ret (results_none rfl _ _ _) rfl ?_
  exact ⟨⟨_, rfl⟩, rfl⟩
theorem on_dead (h : Dead8 q w) : Calls Try.prog 29 #[q] w fun e w' => e = .returned (.bool false) ∧ w' = w := by
  go_enter Try.func29, Try.ntmps29
  go_wp2_with fail
  refine same_mono (ready_dead h) ?_
  go_wp2
  go_ret
  exact ⟨rfl, rfl⟩
theorem ops_dead (h : Dead8 q w) : Calls Try.prog 30 #[q] w fun e w' => e = .returned (.int .i64 0) ∧ w' = w := by
  go_enter Try.func30, Try.ntmps30
  go_wp2_with fail
  refine same_mono (h) ?_
  go_wp2
  go_ret
  exact ⟨rfl, rfl⟩
theorem used_dead (h : Dead8 q w) : Calls Try.prog 24 #[q] w fun e w' => e = .returned (.int .i64 0) ∧ w' = w := by
  go_enter Try.func24, Try.ntmps24
  go_wp2_with fail
  refine same_mono (on_dead h) ?_
  go_wp2
  go_ret
  exact ⟨rfl, rfl⟩
theorem pending_dead (h : Dead8 q w) : Calls Try.prog 19 #[q] w fun e w' => e = .returned (.int .i64 0) ∧ w' = w := by
  go_enter Try.func19, Try.ntmps19
  go_wp2_with fail
  refine same_mono (on_dead h) ?_
  go_wp2
  go_ret
  exact ⟨rfl, rfl⟩
theorem list_dead (h : Dead8 q w) : Calls Try.prog 27 #[q] w fun e w' => e = .returned (.slice none 0 0) ∧ w' = w := by
  go_enter Try.func27, Try.ntmps27
  go_wp2_with fail
  refine same_mono (on_dead h) ?_
  go_wp2
  go_ret
  exact ⟨rfl, rfl⟩
end

set_option maxRecDepth 10000 in
set_option maxHeartbeats 8000000 in
theorem diskNone_any (x : Act8) (w : World) (hx : Fits8 w x) :
    Calls Try.prog 8 #[.agg x.cells.toArray] w fun e w' => e = .returned (.bool true) ∧ Below w.heap.size w w' := by
  obtain ⟨kind, a, b, p, c, data, n, k⟩ := x
  show Calls Try.prog 8 #[.agg #[.int .i64 kind, .string a, .string b, .slice p data.length c, .int .i64 n, .int .i64 k]] w _
  go_enter Try.func8, Try.ntmps8
  go_wp2
  have hz : ((w.alloc (.cells #[.int .i64 kind, .string a, .string b, .slice p data.length c, .int .i64 n, .int .i64 k] 31)).alloc (.cells #[.map none, .slice none 0 0, .int .i64 0, .int .i64 0, .int .i64 0, .bool false, .int .i64 0, .int .i64 0, .int .i64 0] 57)).cell? ⟨w.heap.size + 1, 0, none⟩ = some (.map none) := by
    show (match ((w.heap.push _).push (Obj.cells _ _ _))[w.heap.size + 1]? with | some (Obj.cells c _ _) => c[0]? | _ => none) = _
    rw [show w.heap.size + 1 = (w.heap.push (Obj.cells #[.int .i64 kind, .string a, .string b, .slice p data.length c, .int .i64 n, .int .i64 k] 31)).size from (Array.size_push _).symm, Array.getElem?_push_size]
    rfl
  have hd0 : Dead8 (.pointer none) ((w.alloc (.cells #[.int .i64 kind, .string a, .string b, .slice p data.length c, .int .i64 n, .int .i64 k] 31)).alloc (.cells #[.map none, .slice none 0 0, .int .i64 0, .int .i64 0, .int .i64 0, .bool false, .int .i64 0, .int .i64 0, .int .i64 0] 57)) := made_nil8 _
  have hd1 : Dead8 (.pointer (some ⟨w.heap.size + 1, 0, none⟩)) ((w.alloc (.cells #[.int .i64 kind, .string a, .string b, .slice p data.length c, .int .i64 n, .int .i64 k] 31)).alloc (.cells #[.map none, .slice none 0 0, .int .i64 0, .int .i64 0, .int .i64 0, .bool false, .int .i64 0, .int .i64 0, .int .i64 0] 57)) := made_any8 _ none _ hz
  clear hz
  have hi0 := fun W => (index_two8 (.pointer none) (.pointer (some ⟨w.heap.size + 1, 0, none⟩)) W).1
  have hi1 := fun W => (index_two8 (.pointer none) (.pointer (some ⟨w.heap.size + 1, 0, none⟩)) W).2
  go_loop [9] (fun t => ∃ i : Nat, i ≤ 2 ∧ t = .int .i64 (i : Nat)) (fun t => 2 - (intOf t).toNat)
  case atStart => exact ⟨0, by omega, rfl⟩
  case round =>
    obtain ⟨i, hi, rfl⟩ := hrel
    have h3 : i = 0 ∨ i = 1 ∨ i = 2 := by omega
    rcases h3 with rfl | rfl | rfl
    · have h := hd0
      clear hd0 hd1
      go_wp2_with fail
      refine (crash_dead h n).mono ?_
      rintro e w' ⟨⟨u, rfl⟩, rfl⟩
      go_wp2_with fail
      refine (start_dead h).mono ?_
      rintro e w' ⟨⟨u, rfl⟩, rfl⟩
      go_wp2_with fail
      refine same_mono (read_dead h a) ?_
      go_wp2_with fail
      refine same_mono (create_dead h a) ?_
      go_wp2_with fail
      refine same_mono (append_dead h a p data.length c) ?_
      go_wp2_with fail
      refine same_mono (sync_dead h) ?_
      go_wp2_with fail
      refine same_mono (rename_dead h a b) ?_
      go_wp2_with fail
      refine same_mono (remove_dead h a) ?_
      go_wp2_with fail
      refine same_mono (arm_dead h n k) ?_
      go_wp2_with fail
      refine same_mono (spoil_dead h a n k) ?_
      go_wp2_with fail
      refine same_mono (list_dead h) ?_
      go_wp2_with fail
      refine same_mono (used_dead h) ?_
      go_wp2_with fail
      refine same_mono (pending_dead h) ?_
      go_wp2_with fail
      refine same_mono (ops_dead h) ?_
      go_wp2_with fail
      refine same_mono (on_dead h) ?_
      go_wp2
      go_round
      case rel => exact ⟨1, by omega, by simp⟩
      case measure => simp [intOf]
    · have h := hd1
      clear hd0 hd1
      go_wp2_with fail
      refine (crash_dead h n).mono ?_
      rintro e w' ⟨⟨u, rfl⟩, rfl⟩
      go_wp2_with fail
      refine (start_dead h).mono ?_
      rintro e w' ⟨⟨u, rfl⟩, rfl⟩
      go_wp2_with fail
      refine same_mono (read_dead h a) ?_
      go_wp2_with fail
      refine same_mono (create_dead h a) ?_
      go_wp2_with fail
      refine same_mono (append_dead h a p data.length c) ?_
      go_wp2_with fail
      refine same_mono (sync_dead h) ?_
      go_wp2_with fail
      refine same_mono (rename_dead h a b) ?_
      go_wp2_with fail
      refine same_mono (remove_dead h a) ?_
      go_wp2_with fail
      refine same_mono (arm_dead h n k) ?_
      go_wp2_with fail
      refine same_mono (spoil_dead h a n k) ?_
      go_wp2_with fail
      refine same_mono (list_dead h) ?_
      go_wp2_with fail
      refine same_mono (used_dead h) ?_
      go_wp2_with fail
      refine same_mono (pending_dead h) ?_
      go_wp2_with fail
      refine same_mono (ops_dead h) ?_
      go_wp2_with fail
      refine same_mono (on_dead h) ?_
      go_wp2
      go_round
      case rel => exact ⟨2, by omega, by simp⟩
      case measure => simp [intOf]
    · clear hd0 hd1
      go_wp2_with fail
      refine (lives8 _).mono ?_
      rintro e w5 ⟨rfl, hb5⟩
      go_wp2
      go_ret
      refine ⟨rfl, ?_⟩
      exact (((Below.refl w.heap.size w).alloc (Nat.le_refl _) _).alloc (by show _ ≤ (w.heap.push _).size; simp) _).trans (hb5.mono (by show _ ≤ ((w.heap.push _).push _).size; simp; omega))
end Go.Proofs.Ytefgnehahedckaa
