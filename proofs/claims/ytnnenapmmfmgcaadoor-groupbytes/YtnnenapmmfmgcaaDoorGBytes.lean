/-
  The walk of GroupBytes.
-/
import Derived.Test.YtnnenapmmfmgcaaDoorG4
namespace Go.Proofs.YtnnenapmmfmgcaaDoor
open Go.RowKit

set_option maxHeartbeats 2000000 in
theorem groupBytes_any (wd i c : Int) (w : World) (hT : Tab w) (hw : 0 ≤ wd ∧ wd ≤ 18446744073709551615) (_hi : -9223372036854775808 ≤ i ∧ i ≤ 9223372036854775807) (hc : 0 ≤ c ∧ c ≤ 255) :
    Calls Tryd.prog 3 #[.int .u64 wd, .int .i64 i, .int .u8 c] w fun e w' => e = .returned (.bool true) ∧ Below w.heap.size w w' := by
  obtain ⟨n, rfl⟩ := Int.eq_ofNat_of_zero_le hw.1
  obtain ⟨b, rfl⟩ := Int.eq_ofNat_of_zero_le hc.1
  have hn : n < 18446744073709551616 := by omega
  have hb : b < 256 := by omega
  obtain ⟨k, hk⟩ : ∃ k : Nat, i % 8 = k := ⟨(i % 8).toNat, by omega⟩
  clear hw hc
  go_enter Tryd.func3, Tryd.ntmps3
  go_wp2_with fail
  refine same_mono (get_any n i k hk _ hn) ?_
  go_wp2_with fail
  refine same_mono (rget_any n i k hk _ hn) ?_
  go_wp2_with fail
  refine (set_below n i k b hk _ hn hb).mono ?_
  rintro e w1 ⟨rfl, hb1⟩
  have hT1 := hT.below hb1 hT.1
  go_wp2_with fail
  refine same_mono (rset_any n i k b hk _ hn hb) ?_
  go_wp2_with fail
  refine (lives_any _ hT1).mono ?_
  rintro e w2 ⟨rfl, hb2⟩
  go_wp2
  go_ret
  exact ⟨rfl, hb1.trans (hb2.mono hb1.size)⟩
end Go.Proofs.YtnnenapmmfmgcaaDoor
