import Derived.Test.YtojfihfdnchkeaaGreatDoorRows
import Derived.JoinedCond
namespace Go.Proofs.YtojfihfdnchkeaaGreatDoor.snapWhole
theorem and_mk {a b : Bool} (ha : a = true) (hb : b = true) : (a && b) = true := by rw [ha, hb]; rfl
set_option maxHeartbeats 8000000 in
theorem closed : joinedFacts Tryz.prog 6 Tryz.f6 (OpenSpec.ofChange Rows.snapWholeSpec).bare Rows.snapWholeRow = true := by
  unfold joinedFacts
  repeat' with_reducible refine and_mk ?_ ?_
  all_goals as_aux_lemma => kernel_rfl
end Go.Proofs.YtojfihfdnchkeaaGreatDoor.snapWhole
