/-
  Contract of corbellaw02.undo, a round's way back.
-/
import Derived.Test.YtemnjgglieaiaaaSip1
namespace Go.Proofs.Ytemnjgglieaiaaa
open Go.RowKit

set_option maxHeartbeats 4000000 in
set_option maxRecDepth 10000 in
theorem undo_any (v : V4) (w : World) :
    Calls Try.prog 15 #[v.val] w fun e w' => e = .returned (undoI v).val ∧ Below w.heap.size w w' := by
  obtain ⟨a, b, c, d⟩ := v
  unfold V4.val
  dsimp only
  go_enter Try.func15, Try.ntmps15
  go_wp2_with fail
  refine (back_any _ 32 _ rfl _ (by decide) (by decide)).mono ?_
  rintro e w' ⟨rfl, rfl⟩
  go_wp2_with fail
  refine (back_any _ 17 _ rfl _ (by decide) (by decide)).mono ?_
  rintro e w' ⟨rfl, rfl⟩
  go_wp2_with fail
  refine (back_any _ 21 _ rfl _ (by decide) (by decide)).mono ?_
  rintro e w' ⟨rfl, rfl⟩
  go_wp2_with fail
  refine (back_any _ 16 _ rfl _ (by decide) (by decide)).mono ?_
  rintro e w' ⟨rfl, rfl⟩
  go_wp2_with fail
  refine (back_any _ 32 _ rfl _ (by decide) (by decide)).mono ?_
  rintro e w' ⟨rfl, rfl⟩
  go_wp2_with fail
  refine (back_any _ 13 _ rfl _ (by decide) (by decide)).mono ?_
  rintro e w' ⟨rfl, rfl⟩
  go_wp2
  refine bodyPost_ret (v := (undoI ⟨a, b, c, d⟩).val) (by simp [results, Try.results15, go_sem, undoI, V4.val, subI, xorI]) rfl ⟨rfl, ?_⟩
  exact (((Below.refl _ _).alloc (Nat.le_refl _) _).alloc (by simp) _)
end Go.Proofs.Ytemnjgglieaiaaa
