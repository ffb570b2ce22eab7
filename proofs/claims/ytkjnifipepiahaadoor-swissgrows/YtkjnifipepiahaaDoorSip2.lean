/-
  Contract of siphash.Round.
-/
import Derived.Test.YtkjnifipepiahaaDoorSip1
namespace Go.Proofs.YtkjnifipepiahaaDoor
open Go.RowKit

set_option maxHeartbeats 4000000 in
set_option maxRecDepth 10000 in
theorem round_any (v : V4) (w : World) :
    Calls Tryd.prog 108 #[v.val] w fun e w' => e = .returned (roundI v).val ∧ Below w.heap.size w w' := by
  obtain ⟨a, b, c, d⟩ := v
  unfold V4.val
  dsimp only
  go_enter Tryd.func108, Tryd.ntmps108
  go_wp2
  apply one_end
  · go_region_with (go_at_call 112; refine (rot_any _ 13 _ rfl _ (by decide) (by decide) m13).mono ?_; rintro e w' ⟨rfl, rfl⟩)
    all_goals exact EndAt.mk
  go_wp2_with (go_at_call 112; refine (rot_any _ 32 _ rfl _ (by decide) (by decide) m32).mono ?_; rintro e w' ⟨rfl, rfl⟩)
  apply one_end
  · go_region_with (go_at_call 112; refine (rot_any _ 16 _ rfl _ (by decide) (by decide) m16).mono ?_; rintro e w' ⟨rfl, rfl⟩)
    all_goals exact EndAt.mk
  go_wp2
  apply one_end
  · go_region_with (go_at_call 112; refine (rot_any _ 21 _ rfl _ (by decide) (by decide) m21).mono ?_; rintro e w' ⟨rfl, rfl⟩)
    all_goals exact EndAt.mk
  go_wp2
  apply one_end
  · go_region_with (go_at_call 112; refine (rot_any _ 17 _ rfl _ (by decide) (by decide) m17).mono ?_; rintro e w' ⟨rfl, rfl⟩)
    all_goals exact EndAt.mk
  go_wp2_with (go_at_call 112; refine (rot_any _ 32 _ rfl _ (by decide) (by decide) m32).mono ?_; rintro e w' ⟨rfl, rfl⟩)
  refine bodyPost_ret (v := (roundI ⟨a, b, c, d⟩).val) (by simp [results, Tryd.results108, go_sem, roundI, V4.val, addI, xorI]) rfl ⟨rfl, ?_⟩
  exact (((Below.refl _ _).alloc (Nat.le_refl _) _).alloc (by simp) _).drew.drew.drew.drew
end Go.Proofs.YtkjnifipepiahaaDoor
