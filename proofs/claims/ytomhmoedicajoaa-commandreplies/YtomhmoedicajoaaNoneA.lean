/-
  Contracts: a nil Reader.
-/
import Derived.Test.YtomhmoedicajoaaW4
import Derived.Test.YtomhmoedicajoaaW4b
namespace Go.Proofs.Ytomhmoedicajoaa
open Go.RowKit

set_option maxRecDepth 100000 in
set_option maxHeartbeats 1000000 in
theorem rest_nil (w : World) : Calls Try.prog 72 #[.pointer none] w fun e w' => e = .returned (.slice none 0 0) ∧ w' = w := by
  go_enter Try.func72, Try.ntmps72
  go_wp2
  go_ret
  exact ⟨rfl, rfl⟩

set_option maxRecDepth 100000 in
set_option maxHeartbeats 1000000 in
theorem lose_nil (n : Int) (w : World) : Calls Try.prog 74 #[.pointer none, .int .i64 n] w fun e w' => e = .returned (.tuple #[]) ∧ w' = w := by
  go_enter Try.func74, Try.ntmps74
  go_wp2
  go_end0
  exact ⟨rfl, rfl⟩

set_option maxRecDepth 100000 in
set_option maxHeartbeats 1000000 in
theorem get_nil (w : World) : Calls Try.prog 85 #[.slice none 0 0] w fun e w' => e = .returned (.tuple #[.int .u64 0, .int .i64 0]) ∧ w' = w := by
  go_enter Try.func85, Try.ntmps85
  go_wp2
  go_ret2
  exact ⟨rfl, rfl⟩

set_option maxRecDepth 100000 in
set_option maxHeartbeats 1000000 in
theorem getText_nil (w : World) : Calls Try.prog 73 #[.slice none 0 0] w fun e w' => e = .returned (.tuple #[.string ⟨#[]⟩, .int .i64 0]) ∧ w' = w := by
  go_enter Try.func73, Try.ntmps73
  go_wp2_with (go_at_call 85; refine same_mono (get_nil _) ?_)
  go_ret2
  exact ⟨rfl, rfl⟩

set_option maxRecDepth 100000 in
set_option maxHeartbeats 1000000 in
theorem getBool_nil (w : World) : Calls Try.prog 79 #[.slice none 0 0] w fun e w' => e = .returned (.tuple #[.bool false, .int .i64 0]) ∧ w' = w := by
  go_enter Try.func79, Try.ntmps79
  go_wp2
  go_ret2
  exact ⟨rfl, rfl⟩

set_option maxRecDepth 100000 in
set_option maxHeartbeats 1000000 in
theorem next_num_nil (w : World) : Calls Try.prog 84 #[.slice none 0 0, .func (.func 85) #[] #[], .func (.func 74) #[.pointer none] #[]] w fun e w' => e = .returned (.int .u64 0) ∧ w' = w := by
  go_enter Try.func84, Try.ntmps84
  go_wp2_with (first
    | (go_at_call 85; refine same_mono (get_nil _) ?_)
    | (go_at_call 74; refine same_mono (lose_nil _ _) ?_))
  go_ret
  exact ⟨rfl, rfl⟩

set_option maxRecDepth 100000 in
set_option maxHeartbeats 1000000 in
theorem num_nil (w : World) : Calls Try.prog 70 #[.pointer none] w fun e w' => e = .returned (.int .u64 0) ∧ w' = w := by
  go_enter Try.func70, Try.ntmps70
  go_wp2_with (first
    | (go_at_call 72; refine same_mono (rest_nil _) ?_)
    | (go_at_call 84; refine same_mono (next_num_nil _) ?_))
  go_ret
  exact ⟨rfl, rfl⟩

set_option maxRecDepth 100000 in
set_option maxHeartbeats 1000000 in
theorem next_text_nil (w : World) : Calls Try.prog 71 #[.slice none 0 0, .func (.func 73) #[] #[], .func (.func 74) #[.pointer none] #[]] w fun e w' => e = .returned (.string ⟨#[]⟩) ∧ w' = w := by
  go_enter Try.func71, Try.ntmps71
  go_wp2_with (first
    | (go_at_call 73; refine same_mono (getText_nil _) ?_)
    | (go_at_call 74; refine same_mono (lose_nil _ _) ?_))
  go_ret
  exact ⟨rfl, rfl⟩

set_option maxRecDepth 100000 in
set_option maxHeartbeats 1000000 in
theorem text_nil (w : World) : Calls Try.prog 39 #[.pointer none] w fun e w' => e = .returned (.string ⟨#[]⟩) ∧ w' = w := by
  go_enter Try.func39, Try.ntmps39
  go_wp2_with (first
    | (go_at_call 72; refine same_mono (rest_nil _) ?_)
    | (go_at_call 71; refine same_mono (next_text_nil _) ?_))
  go_ret
  exact ⟨rfl, rfl⟩

set_option maxRecDepth 100000 in
set_option maxHeartbeats 1000000 in
theorem next_bool_nil (w : World) : Calls Try.prog 78 #[.slice none 0 0, .func (.func 79) #[] #[], .func (.func 74) #[.pointer none] #[]] w fun e w' => e = .returned (.bool false) ∧ w' = w := by
  go_enter Try.func78, Try.ntmps78
  go_wp2_with (first
    | (go_at_call 79; refine same_mono (getBool_nil _) ?_)
    | (go_at_call 74; refine same_mono (lose_nil _ _) ?_))
  go_ret
  exact ⟨rfl, rfl⟩

set_option maxRecDepth 100000 in
set_option maxHeartbeats 1000000 in
theorem bool_nil (w : World) : Calls Try.prog 44 #[.pointer none] w fun e w' => e = .returned (.bool false) ∧ w' = w := by
  go_enter Try.func44, Try.ntmps44
  go_wp2_with (first
    | (go_at_call 72; refine same_mono (rest_nil _) ?_)
    | (go_at_call 78; refine same_mono (next_bool_nil _) ?_))
  go_ret
  exact ⟨rfl, rfl⟩

theorem zag0 : zagS 0 = 0 := by decide +kernel

set_option maxRecDepth 100000 in
set_option maxHeartbeats 1000000 in
theorem int_nil (w : World) : Calls Try.prog 38 #[.pointer none] w fun e w' => e = .returned (.int .i64 0) ∧ w' = w := by
  go_enter Try.func38, Try.ntmps38
  go_wp2_with (first
    | (go_at_call 70; refine same_mono (num_nil _) ?_)
    | (go_at_call 69; refine same_mono (zag_any _ _) ?_; rw [zag0]))
  go_ret
  exact ⟨rfl, rfl⟩

set_option maxRecDepth 100000 in
set_option maxHeartbeats 1000000 in
theorem end_nil (w : World) : Calls Try.prog 40 #[.pointer none] w fun e w' => e = .returned (.bool false) ∧ w' = w := by
  go_enter Try.func40, Try.ntmps40
  go_wp2
  go_ret
  exact ⟨rfl, rfl⟩

set_option maxRecDepth 100000 in
set_option maxHeartbeats 1000000 in
theorem upTo_any (m : Int) (w : World) : Calls Try.prog 87 #[.int .i64 m] w fun e w' => e = .returned (.func (.func 90) #[] #[.pointer (some ⟨w.heap.size, 0, none⟩)]) ∧ w' = w.alloc (.cells #[.int .i64 m] 3) := by
  go_enter Try.func87, Try.ntmps87
  go_wp2
  go_ret
  exact ⟨rfl, rfl⟩

set_option maxRecDepth 100000 in
set_option maxHeartbeats 1000000 in
theorem upTo1_nil (m : Int) (b : Nat) (w : World) (hc : w.cell? ⟨b, 0, none⟩ = some (.int .i64 m)) : Calls Try.prog 90 #[.slice none 0 0, .pointer (some ⟨b, 0, none⟩)] w fun e w' => e = .returned (.tuple #[.int .i64 0, .int .i64 0]) ∧ w' = w := by
  by_cases hm : m < 0
  · go_enter Try.func90, Try.ntmps90
    go_wp2_with (go_at_call 85; refine same_mono (get_nil _) ?_)
    go_ret2
    exact ⟨rfl, rfl⟩
  · have hw : 0 ≤ IntKind.u64.wrap m := by rw [IntKind.wrap_u64]; omega
    go_enter Try.func90, Try.ntmps90
    go_wp2_with (go_at_call 85; refine same_mono (get_nil _) ?_)
    all_goals go_ret2
    all_goals exact ⟨rfl, rfl⟩

set_option maxRecDepth 100000 in
set_option maxHeartbeats 1000000 in
theorem next_count_nil (m : Int) (b : Nat) (w : World) (hc : w.cell? ⟨b, 0, none⟩ = some (.int .i64 m)) : Calls Try.prog 86 #[.slice none 0 0, .func (.func 90) #[] #[.pointer (some ⟨b, 0, none⟩)], .func (.func 74) #[.pointer none] #[]] w fun e w' => e = .returned (.int .i64 0) ∧ w' = w := by
  go_enter Try.func86, Try.ntmps86
  go_wp2_with (first
    | (go_at_call 90; refine same_mono (upTo1_nil m b _ hc) ?_)
    | (go_at_call 74; refine same_mono (lose_nil _ _) ?_))
  go_ret
  exact ⟨rfl, rfl⟩

set_option maxRecDepth 100000 in
set_option maxHeartbeats 1000000 in
theorem count_nil (m : Int) (w : World) : Calls Try.prog 80 #[.pointer none, .int .i64 m] w fun e w' => e = .returned (.int .i64 0) ∧ w' = w.alloc (.cells #[.int .i64 m] 3) := by
  go_enter Try.func80, Try.ntmps80
  go_wp2_with (first
    | (go_at_call 72; refine same_mono (rest_nil _) ?_)
    | (go_at_call 87; refine (upTo_any _ _).mono ?_; rintro e w' ⟨rfl, rfl⟩)
    | (go_at_call 86; refine same_mono (next_count_nil m _ _ (by simp)) ?_))
  go_ret
  exact ⟨rfl, rfl⟩
end Go.Proofs.Ytomhmoedicajoaa
