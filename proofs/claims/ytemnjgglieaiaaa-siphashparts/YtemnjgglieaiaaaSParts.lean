/-
  The walk of SiphashParts.
-/
import Derived.Test.YtemnjgglieaiaaaSip8
namespace Go.Proofs.Ytemnjgglieaiaaa
open Go.RowKit

theorem parts_or {h : Int} (hh : Wd h) : bits .or .u64 (h / 128 * 128) (h % 128) = h := by
  obtain ⟨n, rfl, hn⟩ := hh.nat
  have e1 : ((n : Int) / 128 * 128) = ((2 ^ 7 * (n / 128) : Nat) : Int) := by omega
  have e2 : ((n : Int) % 128) = ((n % 128 : Nat) : Int) := by omega
  rw [e1, e2, bits_or_u64_nat _ _ (by omega) (by omega), ← Nat.two_pow_add_eq_or_of_lt (by omega : n % 128 < 2 ^ 7)]
  omega

set_option maxHeartbeats 1000000 in
theorem siphashParts_any (h : Int) (w : World) (hh : 0 ≤ h ∧ h ≤ 18446744073709551615) :
    Calls Try.prog 6 #[.int .u64 h] w fun e w' => e = .returned (.bool true) ∧ Below w.heap.size w w' := by
  have hw : Wd h := ⟨hh.1, by omega⟩
  have h0 := hh.1
  have h1 := hh.2
  have ho := parts_or hw
  go_enter Try.func6, Try.ntmps6
  go_wp2_with fail
  refine same_mono (split_any h _ hw) ?_
  simp only [partsV]
  go_wp2_with fail
  refine (lives_any _).mono ?_
  rintro e w1 ⟨rfl, hb1⟩
  go_wp2
  go_ret
  exact ⟨rfl, hb1⟩
end Go.Proofs.Ytemnjgglieaiaaa
