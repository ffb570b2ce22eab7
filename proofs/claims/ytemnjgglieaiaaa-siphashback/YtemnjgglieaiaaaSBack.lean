/-
  The walk of SiphashBack.
-/
import Derived.Test.YtemnjgglieaiaaaHeld4
import Derived.Test.YtemnjgglieaiaaaSip4
namespace Go.Proofs.Ytemnjgglieaiaaa
open Go.RowKit

set_option maxHeartbeats 4000000 in
theorem siphashBack_any (a b c d : Int) (w : World) (ha : 0 ≤ a ∧ a ≤ 18446744073709551615) (hb : 0 ≤ b ∧ b ≤ 18446744073709551615) (hc : 0 ≤ c ∧ c ≤ 18446744073709551615) (hd : 0 ≤ d ∧ d ≤ 18446744073709551615) :
    Calls Try.prog 5 #[.agg #[.int .u64 a, .int .u64 b], .agg #[.int .u64 c, .int .u64 d]] w fun e w' => e = .returned (.bool true) ∧ Below w.heap.size w w' := by
  have hok : V4.ok ⟨a, b, c, d⟩ := ⟨wd_le ha, wd_le hb, wd_le hc, wd_le hd⟩
  clear ha hb hc hd
  have HU : Hid (undoI (roundI ⟨a, b, c, d⟩) = ⟨a, b, c, d⟩) := undo_round _ hok
  have HR : Hid (roundI (undoI ⟨a, b, c, d⟩) = ⟨a, b, c, d⟩) := round_undo _ hok
  clear hok
  have he := fun w => eq4_same a b c d w
  go_enter Try.func5, Try.ntmps5
  go_wp2_with fail
  have hv := vat_new ((w.alloc (.cells #[.int .u64 a, .int .u64 b] 29)).alloc (.cells #[.int .u64 c, .int .u64 d] 29)) ⟨a, b, c, d⟩ (w.heap.size + 2) (by simp)
  have hB := below3 w (.cells #[.int .u64 a, .int .u64 b] 29) (.cells #[.int .u64 c, .int .u64 d] 29) (.cells #[.int .u64 a, .int .u64 b, .int .u64 c, .int .u64 d] 30)
  generalize ((w.alloc (.cells #[.int .u64 a, .int .u64 b] 29)).alloc (.cells #[.int .u64 c, .int .u64 d] 29)).alloc (.cells #[.int .u64 a, .int .u64 b, .int .u64 c, .int .u64 d] 30) = W at hv hB ⊢
  generalize w.heap.size + 2 = B at hv ⊢
  have s0 := hold4 hv hB
  clear hv hB
  dsimp only at s0
  go_region_held3 (fun w' => w'.cell? ⟨B, 0, none⟩ = some (.int .u64 a) ∧ w'.cell? ⟨B, 1, none⟩ = some (.int .u64 b) ∧ w'.cell? ⟨B, 2, none⟩ = some (.int .u64 c) ∧ w'.cell? ⟨B, 3, none⟩ = some (.int .u64 d) ∧
      Vat w' B ⟨a, b, c, d⟩ ∧ Below w.heap.size w w')
    (first | exact s0 | exact keep4 (by assumption) (by assumption))
    (first
      | (go_at_call_of 13 (Value.agg #[.int .u64 a, .int .u64 b, .int .u64 c, .int .u64 d]); refine (round_any ⟨a, b, c, d⟩ _).mono ?_; rintro e w' ⟨rfl, hb⟩; simp only [V4.val])
      | (go_at_call_of 15 (Value.agg #[.int .u64 a, .int .u64 b, .int .u64 c, .int .u64 d]); refine (undo_any ⟨a, b, c, d⟩ _).mono ?_; rintro e w' ⟨rfl, hb⟩; simp only [V4.val])
      | (go_at_call 13; refine (round_any (undoI ⟨a, b, c, d⟩) _).mono ?_; rw [HR.out]; rintro e w' ⟨rfl, hb⟩; simp only [V4.val])
      | (go_at_call 15; refine (undo_any (roundI ⟨a, b, c, d⟩) _).mono ?_; rw [HU.out]; rintro e w' ⟨rfl, hb⟩; simp only [V4.val])
      | (go_at_call 8; refine (lives_any _).mono ?_; rintro e w' ⟨rfl, hb⟩))
  go_wp2
  go_ret
  exact ⟨rfl, held_below (by assumption)⟩
end Go.Proofs.Ytemnjgglieaiaaa
