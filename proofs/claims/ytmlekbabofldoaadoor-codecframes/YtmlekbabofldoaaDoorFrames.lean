/-
  The law CodecFrames: its walk.
-/
import Derived.Test.YtmlekbabofldoaaDoorRef6
import Derived.Test.YtmlekbabofldoaaDoorLend
import Derived.Test.YtmlekbabofldoaaDoorLives
import Derived.Test.YtmlekbabofldoaaDoorRowed
namespace Go.Proofs.YtmlekbabofldoaaDoor
open Go.RowKit

theorem list_beq3 (l : List Int) : (l == l) = true := by simp
theorem frameF_isB {xs : List Int} (h : IsB xs) : IsB (frameF xs) := by
  unfold frameF; split
  · exact IsB.nil
  · exact frameB_isB h
theorem unframeS_isB {xs : List Int} (h : IsB xs) : IsB (unframeS xs).1 := by
  unfold unframeS
  repeat' split
  all_goals first | exact IsB.nil | exact IsB.cutB h _ _

set_option maxHeartbeats 1000000 in
theorem frames_any (a0 : Option Addr) (len0 cap0 : Nat) (z0 : List Int) (w : World) (hT : Tab w) (hr : IsRow .u8 w a0 len0 cap0 z0) :
    Calls Tryd.prog 3 #[.slice a0 len0 cap0] w fun e w' => e = .returned (.bool true) ∧ Below w.heap.size w w' := by
  obtain ⟨hv, hB, hlen⟩ := hr.has
  have hmax := hr.len_le
  generalize z0.take len0 = xs at *
  clear hr
  by_cases hlong : 1200000 < len0
  · go_enter Tryd.func3, Tryd.ntmps3
    go_wp2_with (go_at_call 9; refine (lives_any _ hT).mono ?_; rintro e w1 ⟨rfl, hb1⟩)
    go_ret
    exact ⟨rfl, hb1⟩
  · have HV : Hid (Has w (.slice a0 len0 cap0) xs) := hv
    have hfB := frameF_isB hB
    have huB := unframeS_isB hB
    clear hv
    go_enter Tryd.func3, Tryd.ntmps3
    go_wp2_with fail
    refine (lend_any _ xs _ HV.out (by omega)).mono ?_
    rintro e w1 ⟨v1, v2, rfl, hl1, hl2, hb1⟩
    go_wp2_with fail
    refine (unframe_any _ xs _ (hT.below hb1 (Nat.le_refl _)) hl2 (by omega) hB).mono ?_
    rintro e w2 ⟨u2, rfl, hu2, hb2⟩
    have hb02 : Below w.heap.size w w2 := hb1.trans (hb2.mono hb1.size)
    have HL1 : Hid (Has w2 v1 (165 :: (xs ++ [90]))) := hl1.below hb2 (Nat.le_refl _)
    have HL2 : Hid (Has w2 v2 xs) := hl2.below hb2 (Nat.le_refl _)
    have HU2 : Hid (Has w2 u2 (unframeS xs).1) := hu2
    clear hl1 hl2 hb1 hb2 hu2
    go_wp2_with fail
    refine (runframe_any _ xs _ (HV.out.below hb02 (Nat.le_refl _)) (by omega) hB).mono ?_
    rintro e w3 ⟨u3, rfl, hu3, hb3⟩
    have hb03 : Below w.heap.size w w3 := hb02.trans (hb3.mono hb02.size)
    have HU3 : Hid (Has w3 u3 (unframeS xs).1) := hu3
    clear hu3
    go_wp2_with fail
    refine same_mono (sum_any _ xs _ (hT.below hb03 (Nat.le_refl _)) (HL2.out.below hb3 (Nat.le_refl _)) (by omega) hB) ?_
    go_wp2_with fail
    refine same_mono (rsum_any _ xs _ (HV.out.below hb03 (Nat.le_refl _)) (by omega) hB) ?_
    go_wp2_with fail
    refine (frame_all _ xs _ (hT.below hb03 (Nat.le_refl _)) (HL2.out.below hb3 (Nat.le_refl _)) (by omega) hB).mono ?_
    rintro e w4 ⟨v4, rfl, ho4, hb4⟩
    have hb04 : Below w.heap.size w w4 := hb03.trans (hb4.mono hb03.size)
    go_wp2_with fail
    refine (rframe_any _ xs _ (HV.out.below hb04 (Nat.le_refl _)) (by omega) hB).mono ?_
    rintro e w5 ⟨v5, rfl, ho5, hb5⟩
    have hb05 : Below w.heap.size w w5 := hb04.trans (hb5.mono hb04.size)
    go_wp2_with fail
    refine same_mono (same_any _ _ (frameF xs) (frameF xs) _ (ho4.below hb5 (Nat.le_refl _)) ho5 hfB hfB) ?_
    rw [list_beq3]
    have hb35 : Below w3.heap.size w3 w5 := hb4.trans (hb5.mono hb4.size)
    have hb25 : Below w2.heap.size w2 w5 := hb3.trans (hb35.mono hb3.size)
    have HL1' : Hid (Has w5 v1 (165 :: (xs ++ [90]))) := HL1.out.below hb25 (Nat.le_refl _)
    have HU2' : Hid (Has w5 u2 (unframeS xs).1) := HU2.out.below hb25 (Nat.le_refl _)
    have HU3' : Hid (Has w5 u3 (unframeS xs).1) := HU3.out.below hb35 (Nat.le_refl _)
    clear ho4 ho5 hb3 hb4 hb5 hb02 hb03 hb04 HL1 HL2 HU2 HU3 hb35 hb25
    go_wp2_with fail
    refine same_mono (same_any _ _ (unframeS xs).1 (unframeS xs).1 _ HU2'.out HU3'.out huB huB) ?_
    rw [list_beq3]
    go_wp2_with (first
      | (go_at_call 18; refine (kept_any _ _ xs _ HL1'.out (HV.out.below hb05 (Nat.le_refl _)) (by omega)).mono ?_; rintro e w8 ⟨rfl, hb8⟩; have hb08 := hb05.trans (hb8.mono hb05.size))
      | (go_at_call 9; refine (lives_any _ (hT.below hb08 (Nat.le_refl _))).mono ?_; rintro e w9 ⟨rfl, hb9⟩))
    go_ret
    exact ⟨rfl, hb08.trans (hb9.mono hb08.size)⟩
end Go.Proofs.YtmlekbabofldoaaDoor
