import Derived.Test.YtephoegcpjdglaaCmA
import Derived.Deep.RegionHeld3
import Derived.BigQuiet
import Derived.WalkSmall
import Derived.Test.YtephoegcpjdglaaLd
import Derived.Test.YtephoegcpjdglaaOnceTo
namespace Go.Proofs.Ytephoegcpjdglaa
open Go.RowKit Go.Lib
attribute [local go_sem ↓] ldE_exec ldE_run stE_exec ldC_exec ldC_run stC_exec stC_run oc_int oc_bool oc_string oc_slice oc_pointer
set_option maxRecDepth 100000 in
set_option maxHeartbeats 1500000 in
theorem asks_any (c n : Cmd9) (w : World) : Calls Try.prog 87 #[.agg c.arr, .agg n.arr] w fun e w' => e = .returned (.bool (asks9 c n)) ∧ Below w.heap.size w w' := by
  obtain ⟨k, s, q, key, old, val, unt, lim⟩ := c
  obtain ⟨k', s', q', key', old', val', unt', lim'⟩ := n
  have he := eqlC
  have hg := grdC
  have hmix : Try.prog.follows Departure.mixedOrders = true := by kernel_rfl
  have HA : Hid (asks9 ⟨k, s, q, key, old, val, unt, lim⟩ ⟨k', s', q', key', old', val', unt', lim'⟩ = (decide (1 ≤ s) && decide (1 ≤ q) && same9 ⟨k, s, q, key, old, val, unt, lim⟩ ⟨k, s, q, key', old', val', unt', lim'⟩)) := rfl
  unfold Cmd9.arr
  dsimp only
  go_enter Try.func87, Try.ntmps87
  go_wp2_with fail
  apply once_proved9
  case main =>
    intro key
    go_region_with (fail)
    all_goals exact key.out
  case proof =>
    by_cases h1 : 1 ≤ s
    · by_cases h2 : 1 ≤ q
      · have HB : Hid (asks9 ⟨k, s, q, key, old, val, unt, lim⟩ ⟨k', s', q', key', old', val', unt', lim'⟩ = same9 ⟨k, s, q, key, old, val, unt, lim⟩ ⟨k, s, q, key', old', val', unt', lim'⟩) := by
          show _ = _
          rw [HA.out, decide_eq_true h1, decide_eq_true h2]
          rfl
        clear HA
        go_wp2
        go_ret
        rw [HB.out]
        exact ⟨rfl, below_drewN (((Below.refl _ _).alloc (Nat.le_refl _) _).alloc (by simp) _) 1⟩
      · have HB : Hid (asks9 ⟨k, s, q, key, old, val, unt, lim⟩ ⟨k', s', q', key', old', val', unt', lim'⟩ = false) := by
          show _ = _
          rw [HA.out, decide_eq_false h2]
          simp
        clear HA
        go_wp2
        go_ret
        rw [HB.out]
        exact ⟨rfl, below_drewN (((Below.refl _ _).alloc (Nat.le_refl _) _).alloc (by simp) _) 1⟩
    · have HB : Hid (asks9 ⟨k, s, q, key, old, val, unt, lim⟩ ⟨k', s', q', key', old', val', unt', lim'⟩ = false) := by
        show _ = _
        rw [HA.out, decide_eq_false h1]
        rfl
      clear HA
      go_wp2
      go_ret
      rw [HB.out]
      exact ⟨rfl, below_drewN (((Below.refl _ _).alloc (Nat.le_refl _) _).alloc (by simp) _) 1⟩
end Go.Proofs.Ytephoegcpjdglaa
