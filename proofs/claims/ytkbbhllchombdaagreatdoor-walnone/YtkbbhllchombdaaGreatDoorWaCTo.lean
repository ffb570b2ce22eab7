import Derived.Test.YtkbbhllchombdaaGreatDoorWaQTo
import Derived.Test.YtkbbhllchombdaaGreatDoorLxTo
import Derived.Test.YtkbbhllchombdaaGreatDoorWaXTo
import Derived.Test.YtkbbhllchombdaaGreatDoorBack0To
import Derived.BigQuiet
import Derived.WalkSmall
import Derived.Test.YtkbbhllchombdaaGreatDoorLd
namespace Go.Proofs.YtkbbhllchombdaaGreatDoor
open Go.RowKit Go.Shelf
theorem strOf_app (a b : List Int) : strOfNums a ++ strOfNums b = strOfNums (a ++ b) := by
  unfold strOfNums
  apply ByteArray.ext
  simp [ByteArray.data_append, List.map_append]
theorem strOf_sz (xs : List Int) : (strOfNums xs).size = xs.length := by simp [strOfNums, ByteArray.size]
theorem pre_str : (⟨#[119, 97, 108, 45]⟩ : ByteArray) = strOfNums pre11 := by decide +kernel

theorem dig_all {l : List Int} : l.all dig11 = true ↔ isDig11 l := by
  rw [List.all_eq_true]
  refine ⟨fun h d hd => ?_, fun h d hd => ?_⟩
  · have := h d hd
    simp only [dig11, Bool.and_eq_true, decide_eq_true_eq] at this
    exact this
  · simp only [dig11, Bool.and_eq_true, decide_eq_true_eq]
    exact h d hd
theorem digs_isB (f n : Nat) : isB8 (digs11 f n) := fun z hz => by
  have := digs_dig f n z hz
  omega
end Go.Proofs.YtkbbhllchombdaaGreatDoor
