/-
  Arguments of two words, by value: a [2]uint64 and a siphash.Key, opened.
-/
import Derived.Test.YtkjnifipepiahaaDoorChecked
import Derived.WalkKit
import Derived.ProofKit
import Derived.OpenShut
import Derived.ChangeSame
namespace Go.Proofs.YtkjnifipepiahaaDoor
open Go.ChangeShapes Go.WideShapes Go.ChangeAt Go.RowKit

theorem two_of {α : Type} : ∀ (a : Array α), a.size = 2 → ∃ x y, a = #[x, y]
  | ⟨[x, y]⟩, _ => ⟨x, y, rfl⟩

theorem cellsK : Tryd.prog.cellsOf 24 = 2 := by kernel_rfl
theorem cellsU : Tryd.prog.cellsOf 22 = 1 := by kernel_rfl

/-- An array of two is read element by element. -/
theorem trod_two {H : Type} {enc : TypeId × Value → H} {W : World} {spare : Nat → Bool} {held : Bool} {P : Program} {t e : TypeId} {base fuel : Nat} {x y : Value} {r : DataW H × List MemPlace} (ht : P.underlying t = some (.array 2 e)) (hc : P.cellsOf e = 1)
    (h : DataW.trod enc P W base spare held fuel t [x, y] = some r) : ∃ n p q, DataW.trod enc P W base spare held n e [x] = some p ∧ DataW.trod enc P W base spare held n e [y] = some q := by
  cases fuel with
  | zero => simp [DataW.trod] at h
  | succ n =>
    unfold DataW.trod at h
    rw [ht] at h
    simp [show List.range 2 = [0, 1] from rfl, hc] at h
    obtain ⟨_, h⟩ := h
    cases hx : DataW.trod enc P W base spare held n e [x] with
    | none => simp [hx] at h
    | some p =>
      cases hy : DataW.trod enc P W base spare held n e [y] with
      | none => simp [hx, hy] at h
      | some q => exact ⟨n, p, q, hx, hy⟩

set_option maxRecDepth 100000 in
theorem open_key {H : Type} {enc : TypeId × Value → H} {W : World} {spare : Nat → Bool} {held : Bool} {b0 base : Nat} {v : Value} {d : DataW H} {p : List MemPlace} (hv : Value.okWide Tryd.prog W .any b0 24 v) (h : DataW.Trod enc Tryd.prog W base spare held 24 v d p) :
    ∃ x y : Int, v = .agg #[.int .u64 x, .int .u64 y] ∧ (0 ≤ x ∧ x ≤ 18446744073709551615) ∧ (0 ≤ y ∧ y ≤ 18446744073709551615) := by
  obtain ⟨cs, rfl, hsz⟩ := okWide_struct Tryd.underlying24 hv
  rw [cellsK] at hsz
  obtain ⟨c0, c1, rfl⟩ := two_of cs hsz
  obtain ⟨fuel, hf⟩ := h
  obtain ⟨q0, q1, n, _, _, h0, h1⟩ := trod_struct2 Tryd.underlying24 hf
  simp only [cellsU] at h0 h1
  obtain ⟨x, e0, _, w0⟩ := DataW.trod_int Tryd.underlying22 h0
  obtain ⟨y, e1, _, w1⟩ := DataW.trod_int Tryd.underlying22 h1
  simp [Value.cells] at e0 e1
  subst e0 e1
  exact ⟨x, y, rfl, bounds_u64 w0, bounds_u64 w1⟩
end Go.Proofs.YtkjnifipepiahaaDoor
