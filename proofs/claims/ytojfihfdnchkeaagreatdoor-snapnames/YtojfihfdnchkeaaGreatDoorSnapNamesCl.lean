import Derived.Test.YtojfihfdnchkeaaGreatDoorRows
import Derived.JoinedCond
namespace Go.Proofs.YtojfihfdnchkeaaGreatDoor.snapNames
theorem and_mk {a b : Bool} (ha : a = true) (hb : b = true) : (a && b) = true := by rw [ha, hb]; rfl
set_option maxHeartbeats 8000000 in
theorem closed : joinedFacts Tryz.prog 8 Tryz.f8 (OpenSpec.ofChange Rows.snapNamesSpec).bare Rows.snapNamesRow = true := by
  unfold joinedFacts
  repeat' with_reducible refine and_mk ?_ ?_
  all_goals as_aux_lemma => kernel_rfl
end Go.Proofs.YtojfihfdnchkeaaGreatDoor.snapNames
