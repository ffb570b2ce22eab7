import Derived.Test.YthlelcmifolnfaaGreatDoorRows
import Derived.JoinedCond
namespace Go.Proofs.YthlelcmifolnfaaGreatDoor.snapActs
theorem and_mk {a b : Bool} (ha : a = true) (hb : b = true) : (a && b) = true := by rw [ha, hb]; rfl
set_option maxHeartbeats 8000000 in
theorem closed : joinedFacts Tryz.prog 4 Tryz.f4 (OpenSpec.ofChange Rows.snapActsSpec).bare Rows.snapActsRow = true := by
  unfold joinedFacts
  repeat' with_reducible refine and_mk ?_ ?_
  all_goals as_aux_lemma => kernel_rfl
end Go.Proofs.YthlelcmifolnfaaGreatDoor.snapActs
