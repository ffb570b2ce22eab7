/-
  Contracts of siphash.Split and corbelref02.Split.
-/
import Derived.Test.YtkjnifipepiahaaDoorSip7
import Derived.Test.YtkjnifipepiahaaDoorSip5
namespace Go.Proofs.YtkjnifipepiahaaDoor
open Go.RowKit

theorem and127 {h : Int} (hh : Wd h) : bits .and .u64 h 127 = h % 128 := by
  obtain ⟨n, rfl, hn⟩ := hh.nat
  rw [show (127 : Int) = ((127 : Nat) : Int) from rfl, bits_and_u64_nat _ _ hn (by decide), show (127 : Nat) = 2 ^ 7 - 1 from rfl, Nat.and_two_pow_sub_one_eq_mod]
  omega

/-- A hash in two parts. -/
def partsV (h : Int) : Value := .tuple #[.int .u64 (h / 128), .int .u8 (h % 128)]

theorem split_any (h : Int) (w : World) (hh : Wd h) : Calls Tryd.prog 95 #[.int .u64 h] w fun e w' => e = .returned (partsV h) ∧ w' = w := by
  have h0 := hh.1
  have h1 := hh.2
  have ha := and127 hh
  go_enter Tryd.func95, Tryd.ntmps95
  go_wp2
  go_ret2
  exact ⟨rfl, rfl⟩
theorem rsplit_any (h : Int) (w : World) (hh : Wd h) : Calls Tryd.prog 87 #[.int .u64 h] w fun e w' => e = .returned (partsV h) ∧ w' = w := by
  have h0 := hh.1
  have h1 := hh.2
  go_enter Tryd.func87, Tryd.ntmps87
  go_wp2
  go_ret2
  exact ⟨rfl, rfl⟩

end Go.Proofs.YtkjnifipepiahaaDoor
