/-
  The walk of SiphashRounds.
-/
import Derived.Test.YtemnjgglieaiaaaHeld4
import Derived.Test.YtemnjgglieaiaaaSip3
namespace Go.Proofs.Ytemnjgglieaiaaa
open Go.RowKit

set_option maxHeartbeats 4000000 in
theorem siphashRounds_any (a b c d h : Int) (w : World) (_ha : 0 ≤ a ∧ a ≤ 18446744073709551615) (_hb : 0 ≤ b ∧ b ≤ 18446744073709551615) (_hc : 0 ≤ c ∧ c ≤ 18446744073709551615) (_hd : 0 ≤ d ∧ d ≤ 18446744073709551615)
    (hh : 0 ≤ h ∧ h ≤ 18446744073709551615) :
    Calls Try.prog 4 #[.agg #[.int .u64 a, .int .u64 b], .agg #[.int .u64 c, .int .u64 d], .int .u64 h] w fun e w' => e = .returned (.bool true) ∧ Below w.heap.size w w' := by
  have hw : Wd h := ⟨hh.1, by omega⟩
  clear _ha _hb _hc _hd hh
  have he := fun w => eq4_same (roundI ⟨a, b, c, d⟩).a (roundI ⟨a, b, c, d⟩).b (roundI ⟨a, b, c, d⟩).c (roundI ⟨a, b, c, d⟩).d w
  go_enter Try.func4, Try.ntmps4
  go_wp2_with fail
  refine same_mono (split_any h _ hw) ?_
  simp only [partsV]
  go_wp2_with fail
  refine same_mono (rsplit_any h _ hw) ?_
  simp only [partsV]
  go_wp2_with fail
  have hv := vat_new ((w.alloc (.cells #[.int .u64 a, .int .u64 b] 29)).alloc (.cells #[.int .u64 c, .int .u64 d] 29)) ⟨a, b, c, d⟩ (w.heap.size + 2) (by simp)
  have hB := below3 w (.cells #[.int .u64 a, .int .u64 b] 29) (.cells #[.int .u64 c, .int .u64 d] 29) (.cells #[.int .u64 a, .int .u64 b, .int .u64 c, .int .u64 d] 30)
  generalize ((w.alloc (.cells #[.int .u64 a, .int .u64 b] 29)).alloc (.cells #[.int .u64 c, .int .u64 d] 29)).alloc (.cells #[.int .u64 a, .int .u64 b, .int .u64 c, .int .u64 d] 30) = W at hv hB ⊢
  generalize w.heap.size + 2 = B at hv ⊢
  have s0 := hold4 hv hB
  clear hv hB
  dsimp only at s0
  go_region_held3 (fun w' => w'.cell? ⟨B, 0, none⟩ = some (.int .u64 a) ∧ w'.cell? ⟨B, 1, none⟩ = some (.int .u64 b) ∧ w'.cell? ⟨B, 2, none⟩ = some (.int .u64 c) ∧ w'.cell? ⟨B, 3, none⟩ = some (.int .u64 d) ∧
      Vat w' B ⟨a, b, c, d⟩ ∧ Below w.heap.size w w')
    (first | exact s0 | exact keep4 (by assumption) (by assumption))
    (first | (go_at_call 13; refine (round_any ⟨a, b, c, d⟩ _).mono ?_; rintro e w' ⟨rfl, hb⟩; simp only [V4.val]) | (go_at_call 14; refine (rround_any ⟨a, b, c, d⟩ _).mono ?_; rintro e w' ⟨rfl, hb⟩; simp only [V4.val]) | (go_at_call 8; refine (lives_any _).mono ?_; rintro e w' ⟨rfl, hb⟩))
  go_wp2
  go_ret
  exact ⟨rfl, held_below (by assumption)⟩
end Go.Proofs.Ytemnjgglieaiaaa
