import Derived.Test.YtojfihfdnchkeaaGreatDoorWaQTo
import Derived.Test.YtojfihfdnchkeaaGreatDoorLxTo
import Derived.Test.YtojfihfdnchkeaaGreatDoorWaXTo
import Derived.Test.YtojfihfdnchkeaaGreatDoorRef7To
import Derived.Test.YtojfihfdnchkeaaGreatDoorBack0To
import Derived.Test.YtojfihfdnchkeaaGreatDoorLd
namespace Go.Proofs.YtojfihfdnchkeaaGreatDoor
open Go.RowKit Go.Shelf
theorem strOf_app (a b : List Int) : strOfNums a ++ strOfNums b = strOfNums (a ++ b) := by
  unfold strOfNums
  apply ByteArray.ext
  simp [ByteArray.data_append, List.map_append]
theorem strOf_sz (xs : List Int) : (strOfNums xs).size = xs.length := by simp [strOfNums, ByteArray.size]
theorem dig_all {l : List Int} : l.all dig11 = true ↔ isDig11 l := by
  rw [List.all_eq_true]
  refine ⟨fun h d hd => ?_, fun h d hd => ?_⟩
  · have := h d hd
    simp only [dig11, Bool.and_eq_true, decide_eq_true_eq] at this
    exact this
  · simp only [dig11, Bool.and_eq_true, decide_eq_true_eq]
    exact h d hd
theorem digs_isB (f n : Nat) : isB8 (digs11 f n) := fun z hz => by
  have := digs_dig f n z hz
  omega
end Go.Proofs.YtojfihfdnchkeaaGreatDoor
