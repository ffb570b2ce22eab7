/-
  The document's examples: corbellaw03.lives.
-/
import Derived.Test.YtnnenapmmfmgcaaDoorG2
namespace Go.Proofs.YtnnenapmmfmgcaaDoor
open Go.RowKit

/-- A callee that leaves the world as it is. -/
theorem same_mono {P : Program} {f : FuncId} {args : Array Value} {w : World} {v : Value} {Q : Ending → World → Prop} (h : Calls P f args w fun e w' => e = .returned v ∧ w' = w) (hQ : Q (.returned v) w) : Calls P f args w Q :=
  h.mono fun e w' h => by obtain ⟨rfl, rfl⟩ := h; exact hQ

theorem below_drewN {B : Nat} {a w : World} (h : Below B a w) : ∀ m, Below B a (w.drewN m)
  | 0 => h
  | m + 1 => (below_drewN h m).drew

theorem set_below (n : Nat) (i : Int) (k c : Nat) (hk : i % 8 = k) (w : World) (hn : n < 18446744073709551616) (hc : c < 256) : Calls Tryd.prog 11 #[.int .u64 n, .int .i64 i, .int .u8 c] w fun e w' => e = .returned (.int .u64 (putN n k c)) ∧ Below w.heap.size w w' :=
  (set_any n i k c hk w hn hc).mono fun e w' h => by
    obtain ⟨rfl, m, rfl⟩ := h
    exact ⟨rfl, below_drewN (Below.refl _ w) m⟩

theorem set_ex (w : World) : Calls Tryd.prog 11 #[.int .u64 9259542123273814144, .int .i64 2, .int .u8 5] w fun e w' => e = .returned (.int .u64 9259542123265753216) ∧ Below w.heap.size w w' := by
  have h := set_below 9259542123273814144 2 2 5 (by decide) w (by decide) (by decide)
  rw [show putN 9259542123273814144 2 5 = 9259542123265753216 by decide +kernel] at h
  exact h
theorem match_ex (w : World) : Calls Tryd.prog 14 #[.int .u64 9259542123265753216, .int .u8 5] w fun e w' => e = .returned (.int .u8 4) ∧ w' = w := by
  have h := match_any 9259542123265753216 5 w (by decide) (by decide)
  rw [show matchN 9259542123265753216 5 = 4 by decide +kernel] at h
  exact h
theorem empties_ex (w : World) : Calls Tryd.prog 16 #[.int .u64 9259542123265753216] w fun e w' => e = .returned (.int .u8 251) ∧ w' = w := by
  have h := empties_any 9259542123265753216 w (by decide)
  rw [show matchN 9259542123265753216 128 = 251 by decide +kernel] at h
  exact h
theorem first_ex (w : World) (hT : Tab w) : Calls Tryd.prog 21 #[.int .u8 12] w fun e w' => e = .returned (.int .i64 2) ∧ w' = w := by
  have h := first_any 12 w hT (by decide)
  rw [show firstN 12 = 2 by decide +kernel] at h
  exact h
theorem next_ex (w : World) : Calls Tryd.prog 23 #[.int .u8 12] w fun e w' => e = .returned (.int .u8 8) ∧ w' = w := by
  have h := next_any 12 w (by decide)
  rw [show nextN 12 = 8 by decide +kernel] at h
  exact h
theorem count_ex (w : World) (hT : Tab w) : Calls Tryd.prog 25 #[.int .u8 7] w fun e w' => e = .returned (.int .i64 3) ∧ Below w.heap.size w w' := by
  have h := count_any 7 w hT (by decide)
  rw [show (slotsL 7).length = 3 by decide +kernel] at h
  exact h

set_option maxHeartbeats 1000000 in
theorem lives_any (w : World) (hT : Tab w) : Calls Tryd.prog 13 #[] w fun e w' => e = .returned (.bool true) ∧ Below w.heap.size w w' := by
  go_enter Tryd.func13, Tryd.ntmps13
  go_wp2_with fail
  refine (set_ex _).mono ?_
  rintro e w1 ⟨rfl, hb1⟩
  have hT1 := hT.below hb1 hT.1
  clear hT
  go_wp2_with fail
  refine same_mono (match_ex _) ?_
  go_wp2_with fail
  refine same_mono (empties_ex _) ?_
  go_wp2_with fail
  refine same_mono (first_ex _ hT1) ?_
  go_wp2_with fail
  refine same_mono (next_ex _) ?_
  go_wp2_with fail
  refine (count_ex _ hT1).mono ?_
  rintro e w2 ⟨rfl, hb2⟩
  go_wp2
  go_ret
  exact ⟨rfl, hb1.trans (hb2.mono hb1.size)⟩
end Go.Proofs.YtnnenapmmfmgcaaDoor
