/-
  Contracts: a nil Reader.
-/
import Derived.Test.YtnbaoimjcaeeaaaW4
import Derived.Test.YtnbaoimjcaeeaaaW4b
namespace Go.Proofs.Ytnbaoimjcaeeaaa
open Go.RowKit

set_option maxRecDepth 100000 in
set_option maxHeartbeats 1000000 in
theorem rest_nil (w : World) : Calls Try.prog 113 #[.pointer none] w fun e w' => e = .returned (.slice none 0 0) ∧ w' = w := by
  go_enter Try.func113, Try.ntmps113
  go_wp2
  go_ret
  exact ⟨rfl, rfl⟩

set_option maxRecDepth 100000 in
set_option maxHeartbeats 1000000 in
theorem lose_nil (n : Int) (w : World) : Calls Try.prog 115 #[.pointer none, .int .i64 n] w fun e w' => e = .returned (.tuple #[]) ∧ w' = w := by
  go_enter Try.func115, Try.ntmps115
  go_wp2
  go_end0
  exact ⟨rfl, rfl⟩

set_option maxRecDepth 100000 in
set_option maxHeartbeats 1000000 in
theorem get_nil (w : World) : Calls Try.prog 123 #[.slice none 0 0] w fun e w' => e = .returned (.tuple #[.int .u64 0, .int .i64 0]) ∧ w' = w := by
  go_enter Try.func123, Try.ntmps123
  go_wp2
  go_ret2
  exact ⟨rfl, rfl⟩

set_option maxRecDepth 100000 in
set_option maxHeartbeats 1000000 in
theorem getText_nil (w : World) : Calls Try.prog 114 #[.slice none 0 0] w fun e w' => e = .returned (.tuple #[.string ⟨#[]⟩, .int .i64 0]) ∧ w' = w := by
  go_enter Try.func114, Try.ntmps114
  go_wp2_with (go_at_call 123; refine same_mono (get_nil _) ?_)
  go_ret2
  exact ⟨rfl, rfl⟩

set_option maxRecDepth 100000 in
set_option maxHeartbeats 1000000 in
theorem getBool_nil (w : World) : Calls Try.prog 118 #[.slice none 0 0] w fun e w' => e = .returned (.tuple #[.bool false, .int .i64 0]) ∧ w' = w := by
  go_enter Try.func118, Try.ntmps118
  go_wp2
  go_ret2
  exact ⟨rfl, rfl⟩

set_option maxRecDepth 100000 in
set_option maxHeartbeats 1000000 in
theorem next_num_nil (w : World) : Calls Try.prog 122 #[.slice none 0 0, .func (.func 123) #[] #[], .func (.func 115) #[.pointer none] #[]] w fun e w' => e = .returned (.int .u64 0) ∧ w' = w := by
  go_enter Try.func122, Try.ntmps122
  go_wp2_with (first
    | (go_at_call 123; refine same_mono (get_nil _) ?_)
    | (go_at_call 115; refine same_mono (lose_nil _ _) ?_))
  go_ret
  exact ⟨rfl, rfl⟩

set_option maxRecDepth 100000 in
set_option maxHeartbeats 1000000 in
theorem num_nil (w : World) : Calls Try.prog 109 #[.pointer none] w fun e w' => e = .returned (.int .u64 0) ∧ w' = w := by
  go_enter Try.func109, Try.ntmps109
  go_wp2_with (first
    | (go_at_call 113; refine same_mono (rest_nil _) ?_)
    | (go_at_call 122; refine same_mono (next_num_nil _) ?_))
  go_ret
  exact ⟨rfl, rfl⟩

set_option maxRecDepth 100000 in
set_option maxHeartbeats 1000000 in
theorem next_text_nil (w : World) : Calls Try.prog 112 #[.slice none 0 0, .func (.func 114) #[] #[], .func (.func 115) #[.pointer none] #[]] w fun e w' => e = .returned (.string ⟨#[]⟩) ∧ w' = w := by
  go_enter Try.func112, Try.ntmps112
  go_wp2_with (first
    | (go_at_call 114; refine same_mono (getText_nil _) ?_)
    | (go_at_call 115; refine same_mono (lose_nil _ _) ?_))
  go_ret
  exact ⟨rfl, rfl⟩

set_option maxRecDepth 100000 in
set_option maxHeartbeats 1000000 in
theorem text_nil (w : World) : Calls Try.prog 83 #[.pointer none] w fun e w' => e = .returned (.string ⟨#[]⟩) ∧ w' = w := by
  go_enter Try.func83, Try.ntmps83
  go_wp2_with (first
    | (go_at_call 113; refine same_mono (rest_nil _) ?_)
    | (go_at_call 112; refine same_mono (next_text_nil _) ?_))
  go_ret
  exact ⟨rfl, rfl⟩

set_option maxRecDepth 100000 in
set_option maxHeartbeats 1000000 in
theorem next_bool_nil (w : World) : Calls Try.prog 117 #[.slice none 0 0, .func (.func 118) #[] #[], .func (.func 115) #[.pointer none] #[]] w fun e w' => e = .returned (.bool false) ∧ w' = w := by
  go_enter Try.func117, Try.ntmps117
  go_wp2_with (first
    | (go_at_call 118; refine same_mono (getBool_nil _) ?_)
    | (go_at_call 115; refine same_mono (lose_nil _ _) ?_))
  go_ret
  exact ⟨rfl, rfl⟩

set_option maxRecDepth 100000 in
set_option maxHeartbeats 1000000 in
theorem bool_nil (w : World) : Calls Try.prog 85 #[.pointer none] w fun e w' => e = .returned (.bool false) ∧ w' = w := by
  go_enter Try.func85, Try.ntmps85
  go_wp2_with (first
    | (go_at_call 113; refine same_mono (rest_nil _) ?_)
    | (go_at_call 117; refine same_mono (next_bool_nil _) ?_))
  go_ret
  exact ⟨rfl, rfl⟩

theorem zag0 : zagS 0 = 0 := by decide +kernel

set_option maxRecDepth 100000 in
set_option maxHeartbeats 1000000 in
theorem int_nil (w : World) : Calls Try.prog 80 #[.pointer none] w fun e w' => e = .returned (.int .i64 0) ∧ w' = w := by
  go_enter Try.func80, Try.ntmps80
  go_wp2_with (first
    | (go_at_call 109; refine same_mono (num_nil _) ?_)
    | (go_at_call 108; refine same_mono (zag_any _ _) ?_; rw [zag0]))
  go_ret
  exact ⟨rfl, rfl⟩

set_option maxRecDepth 100000 in
set_option maxHeartbeats 1000000 in
theorem end_nil (w : World) : Calls Try.prog 79 #[.pointer none] w fun e w' => e = .returned (.bool false) ∧ w' = w := by
  go_enter Try.func79, Try.ntmps79
  go_wp2
  go_ret
  exact ⟨rfl, rfl⟩

set_option maxRecDepth 100000 in
set_option maxHeartbeats 1000000 in
theorem upTo_any (m : Int) (w : World) : Calls Try.prog 125 #[.int .i64 m] w fun e w' => e = .returned (.func (.func 128) #[] #[.pointer (some ⟨w.heap.size, 0, none⟩)]) ∧ w' = w.alloc (.cells #[.int .i64 m] 3) := by
  go_enter Try.func125, Try.ntmps125
  go_wp2
  go_ret
  exact ⟨rfl, rfl⟩

set_option maxRecDepth 100000 in
set_option maxHeartbeats 1000000 in
theorem upTo1_nil (m : Int) (b : Nat) (w : World) (hc : w.cell? ⟨b, 0, none⟩ = some (.int .i64 m)) : Calls Try.prog 128 #[.slice none 0 0, .pointer (some ⟨b, 0, none⟩)] w fun e w' => e = .returned (.tuple #[.int .i64 0, .int .i64 0]) ∧ w' = w := by
  by_cases hm : m < 0
  · go_enter Try.func128, Try.ntmps128
    go_wp2_with (go_at_call 123; refine same_mono (get_nil _) ?_)
    go_ret2
    exact ⟨rfl, rfl⟩
  · have hw : 0 ≤ IntKind.u64.wrap m := by rw [IntKind.wrap_u64]; omega
    go_enter Try.func128, Try.ntmps128
    go_wp2_with (go_at_call 123; refine same_mono (get_nil _) ?_)
    all_goals go_ret2
    all_goals exact ⟨rfl, rfl⟩

set_option maxRecDepth 100000 in
set_option maxHeartbeats 1000000 in
theorem next_count_nil (m : Int) (b : Nat) (w : World) (hc : w.cell? ⟨b, 0, none⟩ = some (.int .i64 m)) : Calls Try.prog 124 #[.slice none 0 0, .func (.func 128) #[] #[.pointer (some ⟨b, 0, none⟩)], .func (.func 115) #[.pointer none] #[]] w fun e w' => e = .returned (.int .i64 0) ∧ w' = w := by
  go_enter Try.func124, Try.ntmps124
  go_wp2_with (first
    | (go_at_call 128; refine same_mono (upTo1_nil m b _ hc) ?_)
    | (go_at_call 115; refine same_mono (lose_nil _ _) ?_))
  go_ret
  exact ⟨rfl, rfl⟩

set_option maxRecDepth 100000 in
set_option maxHeartbeats 1000000 in
theorem count_nil (m : Int) (w : World) : Calls Try.prog 119 #[.pointer none, .int .i64 m] w fun e w' => e = .returned (.int .i64 0) ∧ w' = w.alloc (.cells #[.int .i64 m] 3) := by
  go_enter Try.func119, Try.ntmps119
  go_wp2_with (first
    | (go_at_call 113; refine same_mono (rest_nil _) ?_)
    | (go_at_call 125; refine (upTo_any _ _).mono ?_; rintro e w' ⟨rfl, rfl⟩)
    | (go_at_call 124; refine same_mono (next_count_nil m _ _ (by simp)) ?_))
  go_ret
  exact ⟨rfl, rfl⟩
end Go.Proofs.Ytnbaoimjcaeeaaa
