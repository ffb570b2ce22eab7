/-
  Contracts: codec.appendNumber, Put.
-/
import Derived.Test.YtnbaoimjcaeeaaaW1
namespace Go.Proofs.Ytnbaoimjcaeeaaa
open Go.RowKit

theorem range_step (xs : List Int) (a : Int) (f : Nat → Int) (j : Nat) : (xs ++ a :: (List.range j).map f) ++ [f j] = xs ++ a :: (List.range (j + 1)).map f := by
  simp [List.range_succ]

set_option maxRecDepth 100000 in
set_option maxHeartbeats 1000000 in
theorem appNum_any (v : Value) (xs : List Int) (u : Int) (B : Nat) (w : World) (hown : Owns w B 5 v xs) (hB : B ≤ w.heap.size) (hl : xs.length ≤ 1099511627000) (h0 : 0 ≤ u) (h1 : u < 18446744073709551616) :
    Calls Try.prog 120 #[v, .int .u64 u] w fun e w' => ∃ v', e = .returned v' ∧ Owns w' B 5 v' (xs ++ numB u) ∧ Below B w w' := by
  obtain ⟨i0, hi, hz0, hz1, hz2⟩ := info_parts info8c
  have hk := more_le u.toNat
  unfold numB
  generalize hkk : more u.toNat = k at *
  have HK : Hid (more u.toNat = k) := hkk
  clear hkk
  go_enter Try.func120, Try.ntmps120
  go_wp2_with (first
    | (go_at_call 126; refine same_mono (tail_any _ _ (by omega) (by omega)) ?_; rw [HK.out])
    | (at_builtin; refine ap_one _ rfl (.tmp 13) (.tmp 21) 34 rfl B 5 i0 Try.underlying34 hi hz0 hz1 hz2 _ xs (fb u k) rfl rfl (by exact hown) (by omega) hB ?_; intro v1 w1 hown1 hbel1))
  go_loopw [0, 24] (fun v i wr => ∃ j : Nat, j ≤ k ∧ i = .int .i64 j ∧ Owns wr B 5 v (xs ++ fb u k :: (List.range j).map (bt u k)) ∧ Below B w wr) (fun _ i _ => k - (intOf i).toNat)
  case atStart => exact ⟨0, Nat.zero_le _, rfl, hown1, hbel1⟩
  case round =>
    obtain ⟨j, hj, rfl, hr, hbr⟩ := hrel
    by_cases hlt : j < k
    · go_wp2_with (at_builtin; refine ap_one _ rfl (.tmp 27) (.tmp 36) 34 rfl B 5 i0 Try.underlying34 hi hz0 hz1 hz2 _ _ (bt u k j) rfl rfl (by exact hr) (by simp; omega) (Nat.le_trans hB hbr.size) ?_; intro v2 w2 hown2 hbel2)
      go_roundw
      case rel => exact ⟨j + 1, by omega, by go_num, by rw [← range_step]; exact hown2, hbr.trans hbel2⟩
      case measure => simp [intOf]; omega
    · obtain rfl : j = k := by omega
      go_wp2
      go_ret
      exact ⟨_, rfl, hr, hbr⟩

set_option maxRecDepth 100000 in
set_option maxHeartbeats 1000000 in
theorem put_any (v : Value) (xs : List Int) (u : Int) (w : World) (hv : Has w v xs) (hl : xs.length ≤ 1099511620000) (h0 : 0 ≤ u) (h1 : u < 18446744073709551616) :
    Calls Try.prog 88 #[v, .int .u64 u] w fun e w' => ∃ v', e = .returned v' ∧ Owns w' w.heap.size 5 v' (xs ++ numB u) ∧ Below w.heap.size w w' := by
  go_enter Try.func88, Try.ntmps88
  go_wp2_with (first
    | (go_at_call 87; refine (withRoom_any _ xs _ _ hv (by omega) (by omega) (by omega)).mono ?_; rintro e w1 ⟨v1, rfl, ho1, hb1⟩)
    | (go_at_call 120; refine (appNum_any _ xs u _ _ ho1 hb1.size (by omega) h0 h1).mono ?_; rintro e w2 ⟨v2, rfl, ho2, hb2⟩))
  go_ret
  exact ⟨_, rfl, ho2, hb1.trans hb2⟩
end Go.Proofs.Ytnbaoimjcaeeaaa
