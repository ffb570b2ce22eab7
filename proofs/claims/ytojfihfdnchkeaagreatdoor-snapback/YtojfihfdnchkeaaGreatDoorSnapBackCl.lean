import Derived.Test.YtojfihfdnchkeaaGreatDoorRows
import Derived.JoinedCond
namespace Go.Proofs.YtojfihfdnchkeaaGreatDoor.snapBack
theorem and_mk {a b : Bool} (ha : a = true) (hb : b = true) : (a && b) = true := by rw [ha, hb]; rfl
set_option maxHeartbeats 8000000 in
theorem closed : joinedFacts Tryz.prog 7 Tryz.f7 (OpenSpec.ofChange Rows.snapBackSpec).bare Rows.snapBackRow = true := by
  unfold joinedFacts
  repeat' with_reducible refine and_mk ?_ ?_
  all_goals as_aux_lemma => kernel_rfl
end Go.Proofs.YtojfihfdnchkeaaGreatDoor.snapBack
