/-
  The walk of SiphashSums.
-/
import Derived.Test.YtemnjgglieaiaaaSip9
namespace Go.Proofs.Ytemnjgglieaiaaa
open Go.RowKit

/-- A key's variable, made by the call. -/
def Key1 (w : World) (K : Nat) (k0 k1 : Int) (w' : World) : Prop :=
  w'.heap[K]? = some (.cells #[.int .u64 k0, .int .u64 k1] 24 (0, 0)) ∧ Below w.heap.size w w'

theorem Key1.cells {w w1 : World} {K : Nat} {k0 k1 : Int} (h : Key1 w K k0 k1 w1) : w1.cell? ⟨K, 0, none⟩ = some (.int .u64 k0) ∧ w1.cell? ⟨K, 1, none⟩ = some (.int .u64 k1) ∧ Key1 w K k0 k1 w1 :=
  ⟨by simp [World.cell?, h.1], by simp [World.cell?, h.1], h⟩
theorem Key1.below {w w1 w2 : World} {K : Nat} {k0 k1 : Int} (h : Key1 w K k0 k1 w1) (hb : Below w1.heap.size w1 w2) : Key1 w K k0 k1 w2 :=
  ⟨by rw [hb.block K (lt_of_block h.1)]; exact h.1, h.2.trans (hb.mono h.2.size)⟩
theorem keep2 {w w1 w2 : World} {K : Nat} {k0 k1 : Int} (hb : Below w1.heap.size w1 w2) (h : w1.cell? ⟨K, 0, none⟩ = some (.int .u64 k0) ∧ w1.cell? ⟨K, 1, none⟩ = some (.int .u64 k1) ∧ Key1 w K k0 k1 w1) :
    w2.cell? ⟨K, 0, none⟩ = some (.int .u64 k0) ∧ w2.cell? ⟨K, 1, none⟩ = some (.int .u64 k1) ∧ Key1 w K k0 k1 w2 := (h.2.2.below hb).cells
theorem held2 {w w1 : World} {K : Nat} {k0 k1 : Int} (h : w1.cell? ⟨K, 0, none⟩ = some (.int .u64 k0) ∧ w1.cell? ⟨K, 1, none⟩ = some (.int .u64 k1) ∧ Key1 w K k0 k1 w1) : Below w.heap.size w w1 := h.2.2.2

set_option maxHeartbeats 1000000 in
theorem siphashSums_any (k0 k1 : Int) (s : ByteArray) (w : World) (_h0 : 0 ≤ k0 ∧ k0 ≤ 18446744073709551615) (_h1 : 0 ≤ k1 ∧ k1 ≤ 18446744073709551615) (hm : s.size ≤ maxLen) :
    Calls Try.prog 3 #[.agg #[.int .u64 k0, .int .u64 k1], .string s] w fun e w' => e = .returned (.bool true) ∧ Below w.heap.size w w' := by
  clear _h0 _h1
  have hz : (s.size : Int) ≤ 9223372036854775807 := by unfold maxLen at hm; omega
  clear hm
  by_cases hl : 100000 < s.size
  · go_enter Try.func3, Try.ntmps3
    go_wp2_with fail
    refine (lives_any _).mono ?_
    rintro e w1 ⟨rfl, hb1⟩
    go_wp2
    go_ret
    exact ⟨rfl, ((Below.refl _ _).alloc (Nat.le_refl _) _).trans (hb1.mono (by simp))⟩
  · have m : Key1 w w.heap.size k0 k1 (w.alloc (.cells #[.int .u64 k0, .int .u64 k1] 24)).drew := ⟨heap_alloc_new w _, ((Below.refl _ _).alloc (Nat.le_refl _) _).drew⟩
    have s0 := m.cells
    clear m
    go_enter Try.func3, Try.ntmps3
    go_wp2_with fail
    go_region_held3 (fun w' => w'.cell? ⟨w.heap.size, 0, none⟩ = some (.int .u64 k0) ∧ w'.cell? ⟨w.heap.size, 1, none⟩ = some (.int .u64 k1) ∧ Key1 w w.heap.size k0 k1 w')
      (first | exact s0 | exact keep2 (by assumption) (by assumption))
      (first
        | (go_at_call 9; refine (sum_any k0 k1 s _ (by omega)).mono ?_; rintro e w' ⟨rfl, hb⟩)
        | (go_at_call 10; refine (rsum_any k0 k1 s _ (by omega)).mono ?_; rintro e w' ⟨rfl, hb⟩)
        | (go_at_call 8; refine (lives_any _).mono ?_; rintro e w' ⟨rfl, hb⟩))
    go_wp2
    go_ret
    exact ⟨rfl, held2 (by assumption)⟩
end Go.Proofs.Ytemnjgglieaiaaa
