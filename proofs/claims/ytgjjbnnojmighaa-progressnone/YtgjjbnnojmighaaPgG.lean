import Derived.Test.YtgjjbnnojmighaaPgDTo
import Derived.Deep.RegionHeld3
namespace Go.Proofs.Ytgjjbnnojmighaa
open Go.RowKit

def Dead16 (q : Value) (w : World) : Prop := q = .pointer none ∨ ∃ z, q = .pointer (some ⟨z, 0, none⟩) ∧ w.heap[z]? = some (.cells #[.int .i64 0, .int .i64 0, .int .i64 0, .int .i64 0, .bool false] 37 (0, 0))
theorem Dead16.ptr {q : Value} {w : World} (h : Dead16 q w) : ∃ p, q = .pointer p := by
  rcases h with rfl | ⟨z, rfl, -⟩ <;> exact ⟨_, rfl⟩
section
variable {q : Value} {w : World}
set_option maxRecDepth 100000 in
set_option maxHeartbeats 1000000 in
theorem madeD16 (h : Dead16 q w) : Calls Try.prog 19 #[q] w fun e w' => e = .returned (.bool false) ∧ w' = w := by
  rcases h with rfl | ⟨z, rfl, hz⟩
  · go_enter Try.func19, Try.ntmps19
    go_wp2
    go_ret
    exact ⟨rfl, rfl⟩
  · have c0 : w.cell? ⟨z, 2, none⟩ = some (.int .i64 0) := box_cell16 hz 2
    have hlt := box_lt16 hz
    clear hz
    go_enter Try.func19, Try.ntmps19
    go_wp2
    go_ret
    exact ⟨rfl, rfl⟩
set_option maxRecDepth 100000 in
set_option maxHeartbeats 1000000 in
theorem nextD16 (h : Dead16 q w)  : Calls Try.prog 8 #[q] w fun e w' => e = .returned (.int .i64 0) ∧ w' = w := by
  have kn := madeD16 h
  obtain ⟨p, rfl⟩ := h.ptr
  clear h
  go_enter Try.func8, Try.ntmps8
  go_wp2_with fail
  refine same_mono kn ?_
  go_wp2
  go_ret
  exact ⟨rfl, rfl⟩
set_option maxRecDepth 100000 in
set_option maxHeartbeats 1000000 in
theorem matchD16 (h : Dead16 q w)  : Calls Try.prog 10 #[q] w fun e w' => e = .returned (.int .i64 0) ∧ w' = w := by
  have kn := madeD16 h
  obtain ⟨p, rfl⟩ := h.ptr
  clear h
  go_enter Try.func10, Try.ntmps10
  go_wp2_with fail
  refine same_mono kn ?_
  go_wp2
  go_ret
  exact ⟨rfl, rfl⟩
set_option maxRecDepth 100000 in
set_option maxHeartbeats 1000000 in
theorem modeD16 (h : Dead16 q w)  : Calls Try.prog 14 #[q] w fun e w' => e = .returned (.int .i64 0) ∧ w' = w := by
  have kn := madeD16 h
  obtain ⟨p, rfl⟩ := h.ptr
  clear h
  go_enter Try.func14, Try.ntmps14
  go_wp2_with fail
  refine same_mono kn ?_
  go_wp2
  go_ret
  exact ⟨rfl, rfl⟩
set_option maxRecDepth 100000 in
set_option maxHeartbeats 1000000 in
theorem mayD16 (h : Dead16 q w)  : Calls Try.prog 16 #[q] w fun e w' => e = .returned (.bool false) ∧ w' = w := by
  have kn := madeD16 h
  obtain ⟨p, rfl⟩ := h.ptr
  clear h
  go_enter Try.func16, Try.ntmps16
  go_wp2_with fail
  refine same_mono kn ?_
  go_wp2
  go_ret
  exact ⟨rfl, rfl⟩
set_option maxRecDepth 100000 in
set_option maxHeartbeats 1000000 in
theorem saidD16 (h : Dead16 q w) (n : Int) : Calls Try.prog 12 #[q, .int .i64 n] w fun e w' => e = .returned (.bool false) ∧ w' = w := by
  have kn := madeD16 h
  obtain ⟨p, rfl⟩ := h.ptr
  clear h
  have kc := counted16 n w
  generalize cnt16 n = c at *
  go_enter Try.func12, Try.ntmps12
  go_wp2_with fail
  refine same_mono kc ?_
  go_wp2_with fail
  refine same_mono kn ?_
  go_wp2
  go_ret
  exact ⟨rfl, rfl⟩
set_option maxRecDepth 100000 in
set_option maxHeartbeats 1000000 in
theorem refusedD16 (h : Dead16 q w) (n m : Int) : Calls Try.prog 13 #[q, .int .i64 n, .int .i64 m] w fun e w' => e = .returned (.bool false) ∧ w' = w := by
  have kn := madeD16 h
  obtain ⟨p, rfl⟩ := h.ptr
  clear h
  have kc := counted16 n w
  have kd := counted16 m w
  generalize cnt16 m = d at *
  generalize cnt16 n = c at *
  go_enter Try.func13, Try.ntmps13
  go_wp2_with fail
  refine same_mono kc ?_
  go_wp2_with fail
  refine same_mono kd ?_
  go_wp2_with fail
  refine same_mono kn ?_
  go_wp2
  go_ret
  exact ⟨rfl, rfl⟩
set_option maxRecDepth 100000 in
set_option maxHeartbeats 1000000 in
theorem sentD16 (h : Dead16 q w) (n : Int) : Calls Try.prog 11 #[q, .int .i64 n] w fun e w' => e = .returned (.tuple #[]) ∧ w' = w := by
  have kn := madeD16 h
  obtain ⟨p, rfl⟩ := h.ptr
  clear h
  go_enter Try.func11, Try.ntmps11
  go_wp2_with fail
  refine same_mono kn ?_
  go_wp2
  refine bodyPost_ret (results_none rfl _ _ _) rfl ?_
  exact ⟨rfl, rfl⟩
set_option maxRecDepth 100000 in
set_option maxHeartbeats 1000000 in
theorem snapD16 (h : Dead16 q w) (n : Int) : Calls Try.prog 15 #[q, .int .i64 n] w fun e w' => e = .returned (.tuple #[]) ∧ w' = w := by
  have kn := madeD16 h
  obtain ⟨p, rfl⟩ := h.ptr
  clear h
  go_enter Try.func15, Try.ntmps15
  go_wp2_with fail
  refine same_mono kn ?_
  go_wp2
  refine bodyPost_ret (results_none rfl _ _ _) rfl ?_
  exact ⟨rfl, rfl⟩
set_option maxRecDepth 100000 in
set_option maxHeartbeats 1000000 in
theorem beatD16 (h : Dead16 q w)  : Calls Try.prog 17 #[q] w fun e w' => e = .returned (.tuple #[]) ∧ w' = w := by
  have kn := madeD16 h
  obtain ⟨p, rfl⟩ := h.ptr
  clear h
  go_enter Try.func17, Try.ntmps17
  go_wp2_with fail
  refine same_mono kn ?_
  go_wp2
  refine bodyPost_ret (results_none rfl _ _ _) rfl ?_
  exact ⟨rfl, rfl⟩
end
set_option maxRecDepth 100000 in
set_option maxHeartbeats 2000000 in
theorem progressNone_of (n m : Int) (w : World) :
    Calls Try.prog 5 #[.int .i64 n, .int .i64 m] w fun e w' => e = .returned (.bool true) ∧ Below w.heap.size w w' := by
  go_enter Try.func5, Try.ntmps5
  have hz : Dead16 (.pointer (some ⟨w.heap.size, 0, none⟩)) (w.alloc (.cells #[.int .i64 0, .int .i64 0, .int .i64 0, .int .i64 0, .bool false] 37)) := .inr ⟨w.heap.size, rfl, heap_alloc_new w _⟩
  have hb0 : Below w.heap.size w (w.alloc (.cells #[.int .i64 0, .int .i64 0, .int .i64 0, .int .i64 0, .bool false] 37)) := (Below.refl _ _).alloc (Nat.le_refl _) _
  go_wp2_with fail
  generalize w.alloc (.cells #[.int .i64 0, .int .i64 0, .int .i64 0, .int .i64 0, .bool false] 37) = W at *
  obtain ⟨z, hzz⟩ : ∃ z, z = w.heap.size := ⟨_, rfl⟩
  rw [← hzz] at hz
  rw [← hzz]
  have HZ : Hid _ := hzz
  clear hzz
  go_loopw [9] (fun s wr => ∃ j : Nat, (j = 0 ∨ j = 1 ∨ j = 2) ∧ s = .int .i64 j ∧ Dead16 (.pointer (some ⟨z, 0, none⟩)) wr ∧ Below w.heap.size w wr) (fun s _ => 2 - (intOf s).toNat)
  case atStart => exact ⟨0, .inl rfl, rfl, hz, hb0⟩
  case round =>
    obtain ⟨j, hj, rfl, hd, hbw⟩ := hrel
    clear hz hb0
    have i0 : (Instr.index 38 (.agg #[.pointer none, .pointer (some ⟨z, 0, none⟩)]) (.int .i64 0)).run Try.prog wr = .ok (.pointer none) wr := by rfl
    have i1 : (Instr.index 38 (.agg #[.pointer none, .pointer (some ⟨z, 0, none⟩)]) (.int .i64 1)).run Try.prog wr = .ok (.pointer (some ⟨z, 0, none⟩)) wr := by rfl
    rcases hj with rfl | rfl | rfl
    · have hD : Dead16 (.pointer none) wr := .inl rfl
      go_wp2_with fail
      refine same_mono (sentD16 hD n) ?_
      go_wp2_with fail
      refine same_mono (snapD16 hD n) ?_
      go_wp2_with fail
      refine same_mono (beatD16 hD) ?_
      go_wp2_with fail
      refine same_mono (saidD16 hD n) ?_
      go_wp2_with fail
      refine same_mono (refusedD16 hD n m) ?_
      go_wp2_with fail
      refine same_mono (mayD16 hD) ?_
      go_wp2_with fail
      refine same_mono (nextD16 hD) ?_
      go_wp2_with fail
      refine same_mono (matchD16 hD) ?_
      go_wp2_with fail
      refine same_mono (modeD16 hD) ?_
      go_wp2
      go_roundw
      case rel => exact ⟨1, .inr (.inl rfl), by go_num, hd, hbw⟩
      case measure => simp only [intOf]; omega
    · have hD := hd
      go_wp2_with fail
      refine same_mono (sentD16 hD n) ?_
      go_wp2_with fail
      refine same_mono (snapD16 hD n) ?_
      go_wp2_with fail
      refine same_mono (beatD16 hD) ?_
      go_wp2_with fail
      refine same_mono (saidD16 hD n) ?_
      go_wp2_with fail
      refine same_mono (refusedD16 hD n m) ?_
      go_wp2_with fail
      refine same_mono (mayD16 hD) ?_
      go_wp2_with fail
      refine same_mono (nextD16 hD) ?_
      go_wp2_with fail
      refine same_mono (matchD16 hD) ?_
      go_wp2_with fail
      refine same_mono (modeD16 hD) ?_
      go_wp2
      go_roundw
      case rel => exact ⟨2, .inr (.inr rfl), by go_num, hd, hbw⟩
      case measure => simp only [intOf]; omega
    · have kl := lives16 wr
      go_wp2_with fail
      refine kl.mono ?_
      rintro e w3 ⟨rfl, hb3⟩
      go_wp2
      go_ret
      exact ⟨rfl, hbw.trans (hb3.mono hbw.size)⟩
theorem progressNone_row (n m : Int) (w : World) (_ : -9223372036854775808 ≤ n ∧ n ≤ 9223372036854775807) (_ : -9223372036854775808 ≤ m ∧ m ≤ 9223372036854775807) :
    Calls Try.prog 5 #[.int .i64 n, .int .i64 m] w fun e w' => e = .returned (.bool true) ∧ Below w.heap.size w w' := progressNone_of n m w
end Go.Proofs.Ytgjjbnnojmighaa
