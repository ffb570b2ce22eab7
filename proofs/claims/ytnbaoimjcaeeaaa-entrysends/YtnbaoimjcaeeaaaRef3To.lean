import Derived.Test.YtnbaoimjcaeeaaaRef1To
/-
  Contracts: corbelref01.Zig, Zag, Get.
-/
namespace Go.Proofs.Ytnbaoimjcaeeaaa
open Go.RowKit

theorem or_comm64 (a b : Int) : bits BinOp.or .u64 a b = bits BinOp.or .u64 b a := by
  unfold bits
  simp only [BitVec.or_comm]

set_option maxRecDepth 100000 in
set_option maxHeartbeats 1000000 in
theorem rzig_any (n : Int) (w : World) :
    Calls Try.prog 78 #[.int .i64 n] w fun e w' => e = .returned (.int .u64 (zigS n)) ∧ w' = w := by
  go_enter Try.func78, Try.ntmps78
  go_wp2
  go_ret
  exact ⟨rfl, rfl⟩

/-- The ones ahead of a first byte, one after the other. -/
theorem lead_bit : ∀ x : Fin 256, ∀ j : Fin 8, j.val ≤ lead x.val → (bits BinOp.and .u8 ((x.val : Int) / 2 ^ (7 - j.val)) 1 == 1) = decide (j.val < lead x.val) := by decide +kernel
theorem g0_seven : ∀ x : Fin 256, ∀ k : Fin 9, 7 ≤ k.val → g0 x.val k.val = 0 := by decide +kernel
end Go.Proofs.Ytnbaoimjcaeeaaa

/-
  Contracts: corbelref01.GetText, GetBool, PutText, PutBool.
-/
namespace Go.Proofs.Ytnbaoimjcaeeaaa
open Go.RowKit

set_option maxRecDepth 100000 in
set_option maxHeartbeats 1000000 in
theorem rputText_any (v : Value) (xs : List Int) (s : ByteArray) (w : World) (hv : Has w v xs) (hl : xs.length ≤ 1073741824) (hs : s.size ≤ 1073741824) :
    Calls Try.prog 74 #[v, .string s] w fun e w' => ∃ v', e = .returned v' ∧ Owns w' w.heap.size 5 v' (xs ++ textB s) ∧ Below w.heap.size w w' := by
  obtain ⟨i0, hi, hz0, hz1, hz2⟩ := info_parts info8c
  have hnl := numB_le s.size
  go_enter Try.func74, Try.ntmps74
  go_wp2_with (first
    | (go_at_call 77; refine (rput_cod _ xs (s.size : Int) _ hv (by omega) (by omega) (by omega)).mono ?_; rintro e w2 ⟨v2, rfl, ho2, hb2⟩)
    | (at_builtin; refine ap_text _ rfl (.tmp 9) (.tmp 10) 34 9 rfl w.heap.size 5 i0 Try.underlying34 Try.underlying9 hi hz0 hz1 hz2 _ _ s rfl rfl (by exact ho2) (by rw [List.length_append]; omega) (by omega) (by exact hb2.size) ?_; intro v3 w3 ho3 hb3))
  go_ret
  exact ⟨_, rfl, by rw [textB, ← List.append_assoc]; exact ho3, hb2.trans hb3⟩
end Go.Proofs.Ytnbaoimjcaeeaaa
