/-
  Contracts: the calls of a Map[int] that no call made.
-/
import Derived.Test.YtkjnifipepiahaaDoorSwJi
namespace Go.Proofs.YtkjnifipepiahaaDoor
open Go.RowKit Go.Shelf

/-- A map that no call made, in whatever memory behind w. -/
def NoMap_i (w : World) (p : Value) : Prop := ∀ X, Below w.heap.size w X → Calls Tryd.prog 66 #[p] X fun e w' => e = .returned (.bool false) ∧ w' = X

theorem noMap_nil_i (w : World) : NoMap_i w (.pointer none) := fun X _ => made_nil_i X
theorem noMap_zero_i (w : World) (b : Nat) (hb : b < w.heap.size) (h : w.cell? ⟨b, 2, none⟩ = some (.slice none 0 0)) : NoMap_i w (.pointer (some ⟨b, 0, none⟩)) := fun X hX =>
  made_any_i b 0 0 none X ((hX.cell (p := ⟨b, 2, none⟩) hb).trans h)
theorem NoMap_i.below {w w' : World} {p : Value} (h : NoMap_i w p) (hb : Below w.heap.size w w') : NoMap_i w' p := fun X hX => h X (hb.trans (hX.mono hb.size))

set_option maxHeartbeats 1000000 in
theorem find_none_i (a : Option Addr) (key : ByteArray) (w : World) (h : NoMap_i w (.pointer a)) : Calls Tryd.prog 67 #[.pointer a, .string key] w fun e w' => e = .returned (.int .i64 (-1)) ∧ Below w.heap.size w w' := by
  refine (callsIn_wide (n := 9)).1 ?_
  refine callsIn_of_wp_marks Tryd.func67 rfl trivial ?_ rfl
  simp only [Tryd.ntmps67, List.size_toArray, List.length_cons, List.length_nil, Nat.reduceAdd, Nat.reduceSub, Array.replicate_succ, Array.replicate_zero, List.push_toArray, List.append_toArray, List.nil_append, List.cons_append]
  have q0 := Boxed.new w 61 (.pointer a)
  replace q0 := q0.alloc (.cells #[.string key] 9)
  have hBq : Below w.heap.size w ((w.alloc (.cells #[.pointer a] 61)).alloc (.cells #[.string key] 9)) := ((Below.refl _ w).alloc (Nat.le_refl _) _).alloc (by simp) _
  have hmade := h _ hBq
  generalize hX0 : (w.alloc (.cells #[.pointer a] 61)).alloc (.cells #[.string key] 9) = X0 at q0 hBq hmade
  have e0 := q0.cell
  gi_wp2
  refine scope_wide ?_
  gi_wp2_with (refine ⟨trivial, ?_⟩; gi_at_call 66; refine (callsIn_wide.2 hmade).mono ?_; rintro e w' ⟨rfl, rfl⟩)
  rw [Exit.noGoto_ret]
  exact ⟨_, results_tmp rfl _ _ _, rfl, hBq⟩

theorem put_none_i (a : Option Addr) (key : ByteArray) (v : Value) (w : World) (h : NoMap_i w (.pointer a)) : Calls Tryd.prog 31 #[.pointer a, .string key, v] w fun e w' => e = .returned (.tuple #[.bool false, .int .i64 1]) ∧ w' = w := by
  have hmade := h w (Below.refl _ _)
  go_enter Tryd.func31, Tryd.ntmps31
  go_wp2_with (go_at_call 66; refine hmade.mono ?_; rintro e w ⟨rfl, rfl⟩)
  go_ret2
  exact ⟨rfl, rfl⟩
theorem get_none_i (a : Option Addr) (key : ByteArray) (w : World) (h : NoMap_i w (.pointer a)) : Calls Tryd.prog 32 #[.pointer a, .string key] w fun e w' => e = .returned (.tuple #[(.int .i64 0), .bool false]) ∧ Below w.heap.size w w' := by
  have hf := find_none_i a key w h
  go_enter Tryd.func32, Tryd.ntmps32
  go_wp2_with fail
  refine hf.mono ?_
  rintro e w1 ⟨rfl, hb⟩
  go_wp2
  go_ret2
  exact ⟨rfl, hb⟩
theorem delete_none_i (a : Option Addr) (key : ByteArray) (w : World) (h : NoMap_i w (.pointer a)) : Calls Tryd.prog 33 #[.pointer a, .string key] w fun e w' => e = .returned (.bool false) ∧ Below w.heap.size w w' := by
  have hf := find_none_i a key w h
  go_enter Tryd.func33, Tryd.ntmps33
  go_wp2_with fail
  refine hf.mono ?_
  rintro e w1 ⟨rfl, hb⟩
  go_wp2
  go_ret
  exact ⟨rfl, hb⟩
theorem len_none_i (a : Option Addr) (w : World) (h : NoMap_i w (.pointer a)) : Calls Tryd.prog 34 #[.pointer a] w fun e w' => e = .returned (.int .i64 0) ∧ w' = w := by
  have hmade := h w (Below.refl _ _)
  go_enter Tryd.func34, Tryd.ntmps34
  go_wp2_with (go_at_call 66; refine hmade.mono ?_; rintro e w ⟨rfl, rfl⟩)
  go_ret
  exact ⟨rfl, rfl⟩
theorem tombs_none_i (a : Option Addr) (w : World) (h : NoMap_i w (.pointer a)) : Calls Tryd.prog 35 #[.pointer a] w fun e w' => e = .returned (.int .i64 0) ∧ w' = w := by
  have hmade := h w (Below.refl _ _)
  go_enter Tryd.func35, Tryd.ntmps35
  go_wp2_with (go_at_call 66; refine hmade.mono ?_; rintro e w ⟨rfl, rfl⟩)
  go_ret
  exact ⟨rfl, rfl⟩
theorem controls_none_i (a : Option Addr) (w : World) (h : NoMap_i w (.pointer a)) : Calls Tryd.prog 36 #[.pointer a] w fun e w' => e = .returned (.slice none 0 0) ∧ w' = w := by
  have hmade := h w (Below.refl _ _)
  go_enter Tryd.func36, Tryd.ntmps36
  go_wp2_with (go_at_call 66; refine hmade.mono ?_; rintro e w ⟨rfl, rfl⟩)
  go_ret
  exact ⟨rfl, rfl⟩
theorem copy_none_i (a : Option Addr) (w : World) (h : NoMap_i w (.pointer a)) : Calls Tryd.prog 38 #[.pointer a] w fun e w' => e = .returned (.pointer none) ∧ w' = w := by
  have hmade := h w (Below.refl _ _)
  go_enter Tryd.func38, Tryd.ntmps38
  go_wp2_with (go_at_call 66; refine hmade.mono ?_; rintro e w ⟨rfl, rfl⟩)
  go_ret
  exact ⟨rfl, rfl⟩
set_option maxHeartbeats 1000000 in
theorem keys_none_i (a : Option Addr) (w : World) (h : NoMap_i w (.pointer a)) : Calls Tryd.prog 37 #[.pointer a] w fun e w' => e = .returned (.slice none 0 0) ∧ Below w.heap.size w w' := by
  refine (callsIn_wide (n := 9)).1 ?_
  refine callsIn_of_wp_marks Tryd.func37 rfl trivial ?_ rfl
  simp only [Tryd.ntmps37, List.size_toArray, List.length_cons, List.length_nil, Nat.reduceAdd, Nat.reduceSub, Array.replicate_succ, Array.replicate_zero, List.push_toArray, List.append_toArray, List.nil_append, List.cons_append]
  have q0 := Boxed.new w 61 (.pointer a)
  have hBq : Below w.heap.size w (w.alloc (.cells #[.pointer a] 61)) := (Below.refl _ w).alloc (Nat.le_refl _) _
  have hmade := h _ hBq
  generalize hX0 : w.alloc (.cells #[.pointer a] 61) = X0 at q0 hBq hmade
  have e0 := q0.cell
  gi_wp2_with (refine ⟨trivial, ?_⟩; gi_at_call 66; refine (callsIn_wide.2 hmade).mono ?_; rintro e w' ⟨rfl, rfl⟩)
  exact ⟨_, results_tmp rfl _ _ _, rfl, hBq⟩
end Go.Proofs.YtkjnifipepiahaaDoor
