/-
  The document's examples are as it says ('lives').
-/
import Derived.Test.YtmlekbabofldoaaDoorW4
import Derived.Lib.SlBytesConst
namespace Go.Proofs.YtmlekbabofldoaaDoor
open Go.RowKit

theorem zig_m1 : zigS (-1) = 18446744073709551615 := by decide +kernel
theorem put300 : numB 300 = [129, 44] := by decide +kernel
theorem putab : textB ⟨#[97, 98]⟩ = [2, 97, 98] := by decide +kernel
theorem sum19 : sumS [49, 50, 51, 52, 53, 54, 55, 56, 57] = 3808858755 := by decide +kernel

theorem lit1 : IsB [129, 44] := IsB.cons (by omega) (IsB.cons (by omega) IsB.nil)
theorem lit2 : IsB [2, 97, 98] := IsB.cons (by omega) (IsB.cons (by omega) (IsB.cons (by omega) IsB.nil))
theorem lit3 : IsB [49, 50, 51, 52, 53, 54, 55, 56, 57] := fun x hx => by simp at hx; omega

set_option maxHeartbeats 400000 in
theorem lives_any (w : World) (hT : Tab w) :
    Calls Tryd.prog 9 #[] w fun e w' => e = .returned (.bool true) ∧ Below w.heap.size w w' := by
  go_enter Tryd.func9, Tryd.ntmps9
  go_wp2_with fail
  refine same_mono (zig_any _ _) ?_
  rw [zig_m1]
  go_wp2_with fail
  refine (put_any _ [] 300 _ (Has.nil _) (by simp) (by omega) (by omega)).mono ?_
  rintro e w1 ⟨v1, rfl, ho1, hb1⟩
  rw [List.nil_append, put300] at ho1
  go_wp2_with fail
  have hs1 : Has (w1.alloc (.cells #[.int .u8 129, .int .u8 44] 5)) (.slice (some ⟨w1.heap.size, 0, none⟩) 2 2) [129, 44] := Has.lit w1 [129, 44] 5
  have hbb1 : Below w.heap.size w (w1.alloc (.cells #[.int .u8 129, .int .u8 44] 5)) := hb1.alloc hb1.size _
  refine same_mono (same_any _ _ [129, 44] [129, 44] _ (ho1.has.below ((Below.refl w1.heap.size w1).alloc (Nat.le_refl _) _) (Nat.le_refl _)) hs1 lit1 lit1) ?_
  rw [show (([129, 44] : List Int) == [129, 44]) = true from rfl]
  clear hs1 ho1
  go_wp2_with fail
  refine (putText_any _ [] ⟨#[97, 98]⟩ _ (Has.nil _) (by simp) (by decide)).mono ?_
  rintro e w2 ⟨v2, rfl, ho2, hb2⟩
  rw [List.nil_append, putab] at ho2
  go_wp2_with fail
  have hs2 : Has (w2.alloc (.cells #[.int .u8 2, .int .u8 97, .int .u8 98] 5)) (.slice (some ⟨w2.heap.size, 0, none⟩) 3 3) [2, 97, 98] := Has.lit w2 [2, 97, 98] 5
  have hbb2 : Below w.heap.size w (w2.alloc (.cells #[.int .u8 2, .int .u8 97, .int .u8 98] 5)) := (hbb1.trans (hb2.mono hbb1.size)).alloc (hbb1.trans (hb2.mono hbb1.size)).size _
  refine same_mono (same_any _ _ [2, 97, 98] [2, 97, 98] _ (ho2.has.below ((Below.refl w2.heap.size w2).alloc (Nat.le_refl _) _) (Nat.le_refl _)) hs2 lit2 lit2) ?_
  rw [show (([2, 97, 98] : List Int) == [2, 97, 98]) = true from rfl]
  clear hs2 ho2
  go_wp2_with fail
  refine (frame_any _ [] _ (hT.below hbb2 (Nat.le_refl _)) (Has.nil _) (by simp) IsB.nil).mono ?_
  rintro e w3 ⟨v3, rfl, ho3, hb3⟩
  obtain ⟨p3, c3, rfl, _, _, _⟩ := ho3.has
  rw [frameB_length]
  clear ho3
  have hbb3 := hbb2.trans (hb3.mono hbb2.size)
  clear hb1 hb2 hb3 hbb1 hbb2
  have kc := Lib.run_convert_bytes_const (P := Tryd.prog) w3 22 5 #[.int .u8 49, .int .u8 50, .int .u8 51, .int .u8 52, .int .u8 53, .int .u8 54, .int .u8 55, .int .u8 56, .int .u8 57] 9 9 Tryd.underlying22 Tryd.underlying5
  go_wp2_with fail
  refine same_mono (sum_any _ [49, 50, 51, 52, 53, 54, 55, 56, 57] _ ((hT.below hbb3 (Nat.le_refl _)).below ((Below.refl w3.heap.size w3).alloc (Nat.le_refl _) _) (Nat.le_refl _)) (Has.lit w3 [49, 50, 51, 52, 53, 54, 55, 56, 57] 5 _) (by simp) lit3) ?_
  rw [sum19]
  go_wp2
  go_ret
  exact ⟨rfl, hbb3.alloc hbb3.size _⟩

end Go.Proofs.YtmlekbabofldoaaDoor
