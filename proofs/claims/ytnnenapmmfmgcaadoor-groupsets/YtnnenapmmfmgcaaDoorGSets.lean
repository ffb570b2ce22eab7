/-
  The walk of GroupSets.
-/
import Derived.Test.YtnnenapmmfmgcaaDoorG6
namespace Go.Proofs.YtnnenapmmfmgcaaDoor
open Go.RowKit

set_option maxHeartbeats 2000000 in
theorem groupSets_any (s : Int) (w : World) (hT : Tab w) (hc : 0 ≤ s ∧ s ≤ 255) :
    Calls Tryd.prog 5 #[.int .u8 s] w fun e w' => e = .returned (.bool true) ∧ Below w.heap.size w w' := by
  obtain ⟨b, rfl⟩ := Int.eq_ofNat_of_zero_le hc.1
  have hb : b < 256 := by omega
  clear hc
  go_enter Tryd.func5, Tryd.ntmps5
  go_wp2_with fail
  refine same_mono (first_any b _ hT hb) ?_
  go_wp2_with fail
  refine same_mono (rfirst_any b _ hb) ?_
  go_wp2_with fail
  refine same_mono (next_any b _ hb) ?_
  go_wp2_with fail
  refine same_mono (rnext_any b _ hb) ?_
  go_wp2_with fail
  refine (count_any b _ hT hb).mono ?_
  rintro e w1 ⟨rfl, hb1⟩
  have hT1 := hT.below hb1 hT.1
  go_wp2_with fail
  refine same_mono (rcount_any b _ hb) ?_
  go_wp2_with fail
  refine (lives_any _ hT1).mono ?_
  rintro e w2 ⟨rfl, hb2⟩
  go_wp2
  go_ret
  exact ⟨rfl, hb1.trans (hb2.mono hb1.size)⟩
end Go.Proofs.YtnnenapmmfmgcaaDoor
