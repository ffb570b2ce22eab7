/-
  The walk of GroupWalks.
-/
import Derived.Test.YtnnenapmmfmgcaaDoorG3
namespace Go.Proofs.YtnnenapmmfmgcaaDoor
open Go.RowKit

/-- Where the loop stands after so many rounds: what is left of the set, one more than the last slot, the slots that came. -/
def wk (s : Nat) : Nat → Nat × Nat × Nat
  | 0 => (s, 0, 0)
  | j + 1 => (nextN (wk s j).1, firstN (wk s j).1 + 1, (wk s j).2.2 ||| 2 ^ firstN (wk s j).1)
theorem wk_facts : ∀ s : Fin 256, ∀ j : Fin 9, j.val ≤ (slotsL s.val).length → (wk s.val j.val).1 < 256 ∧ (wk s.val j.val).2.2 < 256 ∧
    ((wk s.val j.val).1 ≠ 0 → (wk s.val j.val).2.1 ≤ firstN (wk s.val j.val).1 ∧ firstN (wk s.val j.val).1 ≤ 7 ∧ j.val < 8) ∧
    ((wk s.val j.val).1 = 0 → (wk s.val j.val).2.2 = s.val ∧ j.val = (slotsL s.val).length) := by decide +kernel
theorem wk_len : ∀ s : Fin 256, ∀ j : Fin 9, (wk s.val j.val).1 ≠ 0 → j.val < (slotsL s.val).length := by decide +kernel
theorem pow_u8 (j : Nat) (hj : j < 8) : ((2 ^ j : Nat) : Int) = 2 ^ j % 256 := (by decide : ∀ j : Fin 8, ((2 ^ j.val : Nat) : Int) = 2 ^ j.val % 256) ⟨j, hj⟩
theorem or_u8 (a f : Nat) (ha : a < 256) (hf : f < 8) : bits .or .u8 (a : Int) (2 ^ f % 256) = ((a ||| 2 ^ f : Nat) : Int) := by
  have hp : 2 ^ f ≤ 128 := (by decide : ∀ j : Fin 8, 2 ^ j.val ≤ 128) ⟨f, hf⟩
  rw [← pow_u8 f hf, u8_or_nat a _ ha (by omega)]
theorem first_zero (w : World) (hT : Tab w) : Calls Tryd.prog 21 #[.int .u8 0] w fun e w' => e = .returned (.int .i64 8) ∧ w' = w := by
  have h := first_any 0 w hT (by decide)
  rw [show firstN 0 = 8 by decide +kernel] at h
  exact h

set_option maxRecDepth 10000 in
set_option maxHeartbeats 2000000 in
theorem groupWalks_any (s0 : Int) (w : World) (hT : Tab w) (hc : 0 ≤ s0 ∧ s0 ≤ 255) :
    Calls Tryd.prog 8 #[.int .u8 s0] w fun e w' => e = .returned (.bool true) ∧ Below w.heap.size w w' := by
  obtain ⟨s, rfl⟩ := Int.eq_ofNat_of_zero_le hc.1
  have hs : s < 256 := by omega
  clear hc
  go_enter Tryd.func8, Tryd.ntmps8
  go_wp2
  go_loop [3, 4, 5, 6] (fun n l a q => ∃ j : Nat, j ≤ 8 ∧ j ≤ (slotsL s).length ∧ n = .int .i64 j ∧ l = .int .i64 (((wk s j).2.1 : Int) - 1) ∧ a = .int .u8 ((wk s j).2.2 : Nat) ∧ q = .int .u8 ((wk s j).1 : Nat)) (fun n _ _ _ => 9 - (intOf n).toNat)
  case atStart => exact ⟨0, by decide, Nat.zero_le _, rfl, rfl, rfl, rfl⟩
  case round =>
    obtain ⟨j, hj, hjl, rfl, rfl, rfl, rfl⟩ := hrel
    obtain ⟨h1, h2, h4, h5⟩ := wk_facts ⟨s, hs⟩ ⟨j, by omega⟩ hjl
    have h6 := wk_len ⟨s, hs⟩ ⟨j, by omega⟩
    dsimp only at h1 h2 h4 h5 h6
    have e1 : Hid (wk s (j + 1) = (nextN (wk s j).1, firstN (wk s j).1 + 1, (wk s j).2.2 ||| 2 ^ firstN (wk s j).1)) := rfl
    generalize (wk s j).1 = q at *
    generalize (wk s j).2.1 = l at *
    generalize (wk s j).2.2 = a at *
    by_cases hq : q = 0
    · obtain ⟨rfl, hjn⟩ := h5 hq
      subst hq
      clear h1 h4 h5 h6 e1
      go_wp2_with fail
      refine (count_any a _ hT hs).mono ?_
      rintro e w1 ⟨rfl, hb1⟩
      have hT1 := hT.below hb1 hT.1
      rw [← hjn]
      clear hjn hjl
      go_wp2_with fail
      refine same_mono (first_zero _ hT1) ?_
      go_wp2_with fail
      refine (lives_any _ hT1).mono ?_
      rintro e w2 ⟨rfl, hb2⟩
      go_wp2
      go_ret
      exact ⟨rfl, hb1.trans (hb2.mono hb1.size)⟩
    · obtain ⟨g1, g2, g3⟩ := h4 hq
      have g4 := h6 hq
      have e2 := or_u8 a (firstN q) h2 (by omega)
      have e3 : Hid ((a ||| 2 ^ firstN q) = (wk s (j + 1)).2.2) := by rw [e1.out]; exact rfl
      have e4 : Hid (firstN q + 1 = (wk s (j + 1)).2.1) := by rw [e1.out]; exact rfl
      have e5 : Hid (nextN q = (wk s (j + 1)).1) := by rw [e1.out]; exact rfl
      have q1 : ((q : Int) != 0) = true := bne_iff_ne.2 (by omega)
      have q2 : (j : Int) < 9 := by omega
      clear h4 h5 h6 e1
      go_wp2_with fail
      refine same_mono (first_any q _ hT h1) ?_
      generalize firstN q = f at *
      generalize (a ||| 2 ^ f) = a2 at *
      go_wp2_with fail
      refine same_mono (next_any q _ h1) ?_
      go_wp2
      refine ⟨⟨j + 1, by omega, by omega, rfl, ?_, ?_, ?_⟩, by simp only [intOf]; omega⟩
      · rw [← e4.out]; congr 1; omega
      · rw [← e3.out]
      · rw [← e5.out]
end Go.Proofs.YtnnenapmmfmgcaaDoor
