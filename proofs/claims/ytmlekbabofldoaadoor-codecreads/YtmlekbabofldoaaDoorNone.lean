/-
  Contracts: a nil Reader.
-/
import Derived.Test.YtmlekbabofldoaaDoorLives
import Derived.Test.YtmlekbabofldoaaDoorW4b
namespace Go.Proofs.YtmlekbabofldoaaDoor
open Go.RowKit

set_option maxHeartbeats 400000 in
theorem rest_nil (w : World) : Calls Tryd.prog 58 #[.pointer none] w fun e w' => e = .returned (.slice none 0 0) ∧ w' = w := by
  go_enter Tryd.func58, Tryd.ntmps58
  go_wp2
  go_ret
  exact ⟨rfl, rfl⟩

set_option maxHeartbeats 400000 in
theorem lose_nil (n : Int) (w : World) : Calls Tryd.prog 59 #[.pointer none, .int .i64 n] w fun e w' => e = .returned (.tuple #[]) ∧ w' = w := by
  go_enter Tryd.func59, Tryd.ntmps59
  go_wp2
  go_end0
  exact ⟨rfl, rfl⟩

set_option maxHeartbeats 400000 in
theorem get_nil (w : World) : Calls Tryd.prog 19 #[.slice none 0 0] w fun e w' => e = .returned (.tuple #[.int .u64 0, .int .i64 0]) ∧ w' = w := by
  go_enter Tryd.func19, Tryd.ntmps19
  go_wp2
  go_ret2
  exact ⟨rfl, rfl⟩

set_option maxHeartbeats 400000 in
theorem getText_nil (w : World) : Calls Tryd.prog 27 #[.slice none 0 0] w fun e w' => e = .returned (.tuple #[.string ⟨#[]⟩, .int .i64 0]) ∧ w' = w := by
  go_enter Tryd.func27, Tryd.ntmps27
  go_wp2_with (go_at_call 19; refine same_mono (get_nil _) ?_)
  go_ret2
  exact ⟨rfl, rfl⟩

set_option maxHeartbeats 400000 in
theorem getBool_nil (w : World) : Calls Tryd.prog 29 #[.slice none 0 0] w fun e w' => e = .returned (.tuple #[.bool false, .int .i64 0]) ∧ w' = w := by
  go_enter Tryd.func29, Tryd.ntmps29
  go_wp2
  go_ret2
  exact ⟨rfl, rfl⟩

set_option maxHeartbeats 400000 in
theorem next_num_nil (w : World) : Calls Tryd.prog 57 #[.slice none 0 0, .func (.func 19) #[] #[], .func (.func 59) #[.pointer none] #[]] w fun e w' => e = .returned (.int .u64 0) ∧ w' = w := by
  go_enter Tryd.func57, Tryd.ntmps57
  go_wp2_with (first
    | (go_at_call 19; refine same_mono (get_nil _) ?_)
    | (go_at_call 59; refine same_mono (lose_nil _ _) ?_))
  go_ret
  exact ⟨rfl, rfl⟩

set_option maxHeartbeats 400000 in
theorem num_nil (w : World) : Calls Tryd.prog 35 #[.pointer none] w fun e w' => e = .returned (.int .u64 0) ∧ w' = w := by
  go_enter Tryd.func35, Tryd.ntmps35
  go_wp2_with (first
    | (go_at_call 58; refine same_mono (rest_nil _) ?_)
    | (go_at_call 57; refine same_mono (next_num_nil _) ?_))
  go_ret
  exact ⟨rfl, rfl⟩

set_option maxHeartbeats 400000 in
theorem next_text_nil (w : World) : Calls Tryd.prog 61 #[.slice none 0 0, .func (.func 27) #[] #[], .func (.func 59) #[.pointer none] #[]] w fun e w' => e = .returned (.string ⟨#[]⟩) ∧ w' = w := by
  go_enter Tryd.func61, Tryd.ntmps61
  go_wp2_with (first
    | (go_at_call 27; refine same_mono (getText_nil _) ?_)
    | (go_at_call 59; refine same_mono (lose_nil _ _) ?_))
  go_ret
  exact ⟨rfl, rfl⟩

set_option maxHeartbeats 400000 in
theorem text_nil (w : World) : Calls Tryd.prog 39 #[.pointer none] w fun e w' => e = .returned (.string ⟨#[]⟩) ∧ w' = w := by
  go_enter Tryd.func39, Tryd.ntmps39
  go_wp2_with (first
    | (go_at_call 58; refine same_mono (rest_nil _) ?_)
    | (go_at_call 61; refine same_mono (next_text_nil _) ?_))
  go_ret
  exact ⟨rfl, rfl⟩

set_option maxHeartbeats 400000 in
theorem next_bool_nil (w : World) : Calls Tryd.prog 62 #[.slice none 0 0, .func (.func 29) #[] #[], .func (.func 59) #[.pointer none] #[]] w fun e w' => e = .returned (.bool false) ∧ w' = w := by
  go_enter Tryd.func62, Tryd.ntmps62
  go_wp2_with (first
    | (go_at_call 29; refine same_mono (getBool_nil _) ?_)
    | (go_at_call 59; refine same_mono (lose_nil _ _) ?_))
  go_ret
  exact ⟨rfl, rfl⟩

set_option maxHeartbeats 400000 in
theorem bool_nil (w : World) : Calls Tryd.prog 41 #[.pointer none] w fun e w' => e = .returned (.bool false) ∧ w' = w := by
  go_enter Tryd.func41, Tryd.ntmps41
  go_wp2_with (first
    | (go_at_call 58; refine same_mono (rest_nil _) ?_)
    | (go_at_call 62; refine same_mono (next_bool_nil _) ?_))
  go_ret
  exact ⟨rfl, rfl⟩

theorem zag0 : zagS 0 = 0 := by decide +kernel

set_option maxHeartbeats 400000 in
theorem int_nil (w : World) : Calls Tryd.prog 37 #[.pointer none] w fun e w' => e = .returned (.int .i64 0) ∧ w' = w := by
  go_enter Tryd.func37, Tryd.ntmps37
  go_wp2_with (first
    | (go_at_call 35; refine same_mono (num_nil _) ?_)
    | (go_at_call 25; refine same_mono (zag_any _ _) ?_; rw [zag0]))
  go_ret
  exact ⟨rfl, rfl⟩

set_option maxHeartbeats 400000 in
theorem end_nil (w : World) : Calls Tryd.prog 45 #[.pointer none] w fun e w' => e = .returned (.bool false) ∧ w' = w := by
  go_enter Tryd.func45, Tryd.ntmps45
  go_wp2
  go_ret
  exact ⟨rfl, rfl⟩

set_option maxHeartbeats 400000 in
theorem upTo_any (m : Int) (w : World) : Calls Tryd.prog 64 #[.int .i64 m] w fun e w' => e = .returned (.func (.func 67) #[] #[.pointer (some ⟨w.heap.size, 0, none⟩)]) ∧ w' = w.alloc (.cells #[.int .i64 m] 3) := by
  go_enter Tryd.func64, Tryd.ntmps64
  go_wp2
  go_ret
  exact ⟨rfl, rfl⟩

set_option maxHeartbeats 400000 in
theorem upTo1_nil (m : Int) (b : Nat) (w : World) (hc : w.cell? ⟨b, 0, none⟩ = some (.int .i64 m)) : Calls Tryd.prog 67 #[.slice none 0 0, .pointer (some ⟨b, 0, none⟩)] w fun e w' => e = .returned (.tuple #[.int .i64 0, .int .i64 0]) ∧ w' = w := by
  by_cases hm : m < 0
  · go_enter Tryd.func67, Tryd.ntmps67
    go_wp2_with (go_at_call 19; refine same_mono (get_nil _) ?_)
    go_ret2
    exact ⟨rfl, rfl⟩
  · have hw : 0 ≤ IntKind.u64.wrap m := by rw [IntKind.wrap_u64]; omega
    go_enter Tryd.func67, Tryd.ntmps67
    go_wp2_with (go_at_call 19; refine same_mono (get_nil _) ?_)
    all_goals go_ret2
    all_goals exact ⟨rfl, rfl⟩

set_option maxHeartbeats 400000 in
theorem next_count_nil (m : Int) (b : Nat) (w : World) (hc : w.cell? ⟨b, 0, none⟩ = some (.int .i64 m)) : Calls Tryd.prog 63 #[.slice none 0 0, .func (.func 67) #[] #[.pointer (some ⟨b, 0, none⟩)], .func (.func 59) #[.pointer none] #[]] w fun e w' => e = .returned (.int .i64 0) ∧ w' = w := by
  go_enter Tryd.func63, Tryd.ntmps63
  go_wp2_with (first
    | (go_at_call 67; refine same_mono (upTo1_nil m b _ hc) ?_)
    | (go_at_call 59; refine same_mono (lose_nil _ _) ?_))
  go_ret
  exact ⟨rfl, rfl⟩

set_option maxHeartbeats 400000 in
theorem count_nil (m : Int) (w : World) : Calls Tryd.prog 43 #[.pointer none, .int .i64 m] w fun e w' => e = .returned (.int .i64 0) ∧ w' = w.alloc (.cells #[.int .i64 m] 3) := by
  go_enter Tryd.func43, Tryd.ntmps43
  go_wp2_with (first
    | (go_at_call 58; refine same_mono (rest_nil _) ?_)
    | (go_at_call 64; refine (upTo_any _ _).mono ?_; rintro e w' ⟨rfl, rfl⟩)
    | (go_at_call 63; refine same_mono (next_count_nil m _ _ (by simp)) ?_))
  go_ret
  exact ⟨rfl, rfl⟩

set_option maxHeartbeats 400000 in
theorem none_any (k : Int) (w : World) (hT : Tab w) (_hk : -9223372036854775808 ≤ k ∧ k ≤ 9223372036854775807) : Calls Tryd.prog 7 #[.int .i64 k] w fun e w' => e = .returned (.bool true) ∧ Below w.heap.size w w' := by
  go_enter Tryd.func7, Tryd.ntmps7
  go_wp2_with (first
    | (go_at_call 35; refine same_mono (num_nil _) ?_)
    | (go_at_call 37; refine same_mono (int_nil _) ?_)
    | (go_at_call 39; refine same_mono (text_nil _) ?_)
    | (go_at_call 41; refine same_mono (bool_nil _) ?_)
    | (go_at_call 43; refine (count_nil _ _).mono ?_; rintro e w' ⟨rfl, rfl⟩)
    | (go_at_call 45; refine same_mono (end_nil _) ?_)
    | (go_at_call 9; refine (lives_any _ (hT.below ((Below.refl w.heap.size w).alloc (Nat.le_refl _) _) (Nat.le_refl _))).mono ?_; rintro e w1 ⟨rfl, hb1⟩))
  go_ret
  exact ⟨rfl, ((Below.refl w.heap.size w).alloc (Nat.le_refl _) _).trans (hb1.mono (by simp))⟩
end Go.Proofs.YtmlekbabofldoaaDoor
