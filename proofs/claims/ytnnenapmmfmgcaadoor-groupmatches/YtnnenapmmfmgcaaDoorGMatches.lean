/-
  The walk of GroupMatches.
-/
import Derived.Test.YtnnenapmmfmgcaaDoorG5
namespace Go.Proofs.YtnnenapmmfmgcaaDoor
open Go.RowKit

set_option maxHeartbeats 2000000 in
theorem groupMatches_any (wd h : Int) (w : World) (hT : Tab w) (hw : 0 ≤ wd ∧ wd ≤ 18446744073709551615) (hc : 0 ≤ h ∧ h ≤ 255) :
    Calls Tryd.prog 4 #[.int .u64 wd, .int .u8 h] w fun e w' => e = .returned (.bool true) ∧ Below w.heap.size w w' := by
  obtain ⟨n, rfl⟩ := Int.eq_ofNat_of_zero_le hw.1
  obtain ⟨b, rfl⟩ := Int.eq_ofNat_of_zero_le hc.1
  have hn : n < 18446744073709551616 := by omega
  have hb : b < 256 := by omega
  clear hw hc
  go_enter Tryd.func4, Tryd.ntmps4
  go_wp2_with fail
  refine same_mono (match_any n b _ hn hb) ?_
  go_wp2_with fail
  refine same_mono (rmatch_any n b _ hn) ?_
  go_wp2_with fail
  refine same_mono (empties_any n _ hn) ?_
  go_wp2_with fail
  refine same_mono (rmatch_any n 128 _ hn) ?_
  go_wp2_with fail
  refine same_mono (free_any n _ hn) ?_
  go_wp2_with fail
  refine same_mono (rfree_any n _ hn) ?_
  go_wp2_with fail
  refine same_mono (full_any n _ hn) ?_
  go_wp2_with fail
  refine same_mono (rfull_any n _ hn) ?_
  go_wp2_with fail
  refine (lives_any _ hT).mono ?_
  rintro e w2 ⟨rfl, hb2⟩
  go_wp2
  go_ret
  exact ⟨rfl, hb2⟩
end Go.Proofs.YtnnenapmmfmgcaaDoor
