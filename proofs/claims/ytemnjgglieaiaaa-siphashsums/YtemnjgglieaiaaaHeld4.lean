/-
  What a region that only reads four words keeps.
-/
import Derived.Test.YtemnjgglieaiaaaSip8
import Derived.Deep.RegionHeld3
namespace Go.Proofs.Ytemnjgglieaiaaa
open Go.RowKit

theorem wd_le {x : Int} (h : 0 ≤ x ∧ x ≤ 18446744073709551615) : Wd x := ⟨h.1, by omega⟩

/-- What a region that only reads the four words keeps: they, and what was there ahead of the call. -/
theorem keep4 {w w1 w2 : World} {B : Nat} {a b c d : Int} (hb : Below w1.heap.size w1 w2)
    (h : w1.cell? ⟨B, 0, none⟩ = some (.int .u64 a) ∧ w1.cell? ⟨B, 1, none⟩ = some (.int .u64 b) ∧ w1.cell? ⟨B, 2, none⟩ = some (.int .u64 c) ∧ w1.cell? ⟨B, 3, none⟩ = some (.int .u64 d) ∧ Vat w1 B ⟨a, b, c, d⟩ ∧ Below w.heap.size w w1) :
    w2.cell? ⟨B, 0, none⟩ = some (.int .u64 a) ∧ w2.cell? ⟨B, 1, none⟩ = some (.int .u64 b) ∧ w2.cell? ⟨B, 2, none⟩ = some (.int .u64 c) ∧ w2.cell? ⟨B, 3, none⟩ = some (.int .u64 d) ∧ Vat w2 B ⟨a, b, c, d⟩ ∧ Below w.heap.size w w2 := by
  obtain ⟨_, _, _, _, hv, hw⟩ := h
  have hv2 := hv.below hb (Nat.le_refl _)
  exact ⟨hv2.c0, hv2.c1, hv2.c2, hv2.c3, hv2, hw.trans (hb.mono hw.size)⟩

theorem hold4 {w W : World} {B : Nat} {v : V4} (hv : Vat W B v) (hw : Below w.heap.size w W) :
    W.drew.cell? ⟨B, 0, none⟩ = some (.int .u64 v.a) ∧ W.drew.cell? ⟨B, 1, none⟩ = some (.int .u64 v.b) ∧ W.drew.cell? ⟨B, 2, none⟩ = some (.int .u64 v.c) ∧ W.drew.cell? ⟨B, 3, none⟩ = some (.int .u64 v.d) ∧ Vat W.drew B v ∧ Below w.heap.size w W.drew := by
  have hv2 : Vat W.drew B v := hv
  exact ⟨hv2.c0, hv2.c1, hv2.c2, hv2.c3, hv2, hw.drew⟩

/-- A variable of four words that has just been laid. -/
theorem vat_new (w : World) (v : V4) (B : Nat) (hB : w.heap.size = B) : Vat (w.alloc (.cells #[.int .u64 v.a, .int .u64 v.b, .int .u64 v.c, .int .u64 v.d] 30)) B v := by
  subst hB
  unfold Vat
  rw [heap_alloc_new]
theorem below3 (w : World) (o o' o'' : Obj) : Below w.heap.size w (((w.alloc o).alloc o').alloc o'') :=
  (((Below.refl _ _).alloc (Nat.le_refl _) o).alloc (by simp) o').alloc (by simp; omega) o''

theorem held_below {w w1 : World} {B : Nat} {a b c d : Int}
    (h : w1.cell? ⟨B, 0, none⟩ = some (.int .u64 a) ∧ w1.cell? ⟨B, 1, none⟩ = some (.int .u64 b) ∧ w1.cell? ⟨B, 2, none⟩ = some (.int .u64 c) ∧ w1.cell? ⟨B, 3, none⟩ = some (.int .u64 d) ∧ Vat w1 B ⟨a, b, c, d⟩ ∧ Below w.heap.size w w1) : Below w.heap.size w w1 := h.2.2.2.2.2
end Go.Proofs.Ytemnjgglieaiaaa
