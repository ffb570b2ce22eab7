/-
  Contract of corbelref02.Round.
-/
import Derived.Test.YtemnjgglieaiaaaSip1
namespace Go.Proofs.Ytemnjgglieaiaaa
open Go.RowKit

set_option maxHeartbeats 4000000 in
set_option maxRecDepth 10000 in
theorem rround_any (v : V4) (w : World) :
    Calls Try.prog 14 #[v.val] w fun e w' => e = .returned (roundI v).val ∧ Below w.heap.size w w' := by
  obtain ⟨a, b, c, d⟩ := v
  unfold V4.val
  dsimp only
  go_enter Try.func14, Try.ntmps14
  go_wp2
  apply one_end
  · go_region_with (go_at_call 22; refine (rotl_any _ 13 _ rfl _ (by decide) (by decide)).mono ?_; rintro e w' ⟨rfl, rfl⟩)
    all_goals exact EndAt.mk
  go_wp2_with (go_at_call 22; refine (rotl_any _ 32 _ rfl _ (by decide) (by decide)).mono ?_; rintro e w' ⟨rfl, rfl⟩)
  apply one_end
  · go_region_with (go_at_call 22; refine (rotl_any _ 16 _ rfl _ (by decide) (by decide)).mono ?_; rintro e w' ⟨rfl, rfl⟩)
    all_goals exact EndAt.mk
  go_wp2
  apply one_end
  · go_region_with (go_at_call 22; refine (rotl_any _ 21 _ rfl _ (by decide) (by decide)).mono ?_; rintro e w' ⟨rfl, rfl⟩)
    all_goals exact EndAt.mk
  go_wp2
  apply one_end
  · go_region_with (go_at_call 22; refine (rotl_any _ 17 _ rfl _ (by decide) (by decide)).mono ?_; rintro e w' ⟨rfl, rfl⟩)
    all_goals exact EndAt.mk
  go_wp2_with (go_at_call 22; refine (rotl_any _ 32 _ rfl _ (by decide) (by decide)).mono ?_; rintro e w' ⟨rfl, rfl⟩)
  refine bodyPost_ret (v := (roundI ⟨a, b, c, d⟩).val) (by simp [results, Try.results14, go_sem, roundI, V4.val, addI, xorI]) rfl ⟨rfl, ?_⟩
  exact (((Below.refl _ _).alloc (Nat.le_refl _) _).alloc (by simp) _).drew.drew.drew.drew
end Go.Proofs.Ytemnjgglieaiaaa
