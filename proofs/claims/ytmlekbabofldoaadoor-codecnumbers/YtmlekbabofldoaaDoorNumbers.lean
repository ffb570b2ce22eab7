/-
  The law CodecNumbers: its walk.
-/
import Derived.Test.YtmlekbabofldoaaDoorRef2
import Derived.Test.YtmlekbabofldoaaDoorLend
import Derived.Test.YtmlekbabofldoaaDoorLives
import Derived.Test.YtmlekbabofldoaaDoorRowed
namespace Go.Proofs.YtmlekbabofldoaaDoor
open Go.RowKit

theorem list_beq (l : List Int) : (l == l) = true := by simp

set_option maxHeartbeats 1000000 in
theorem numbers_any (a0 : Option Addr) (len0 cap0 : Nat) (z0 : List Int) (u n : Int) (w : World) (hT : Tab w) (hr : IsRow .u8 w a0 len0 cap0 z0) (hu : 0 ≤ u ∧ u ≤ 18446744073709551615) (_hn : -9223372036854775808 ≤ n ∧ n ≤ 9223372036854775807) :
    Calls Tryd.prog 4 #[.slice a0 len0 cap0, .int .u64 u, .int .i64 n] w fun e w' => e = .returned (.bool true) ∧ Below w.heap.size w w' := by
  obtain ⟨hv, hB, hlen⟩ := hr.has
  have hmax := hr.len_le
  generalize z0.take len0 = xs at *
  clear hr
  by_cases hlong : 1000 < len0
  · go_enter Tryd.func4, Tryd.ntmps4
    go_wp2_with (go_at_call 9; refine (lives_any _ hT).mono ?_; rintro e w1 ⟨rfl, hb1⟩)
    go_ret
    exact ⟨rfl, hb1⟩
  · have HV : Hid (Has w (.slice a0 len0 cap0) xs) := hv
    have hlB : IsB (xs ++ numB u) := IsB.append hB (numB_isB u)
    clear hv
    go_enter Tryd.func4, Tryd.ntmps4
    go_wp2_with fail
    refine (lend_any _ xs _ HV.out (by omega)).mono ?_
    rintro e w1 ⟨v1, v2, rfl, hl1, hl2, hb1⟩
    go_wp2_with fail
    refine (get_any _ xs _ hl2 hB (by omega)).mono ?_
    rintro e w2 ⟨rfl, hb2⟩
    have hb02 : Below w.heap.size w w2 := hb1.trans (hb2.mono hb1.size)
    have HL1 : Hid (Has w2 v1 (165 :: (xs ++ [90]))) := hl1.below hb2 (Nat.le_refl _)
    have HL2 : Hid (Has w2 v2 xs) := hl2.below hb2 (Nat.le_refl _)
    clear hl1 hl2 hb1 hb2
    go_wp2_with fail
    refine same_mono (rget_any _ xs _ (HV.out.below hb02 (Nat.le_refl _)) hB (by omega)) ?_
    go_wp2_with fail
    refine (put_any _ xs u _ HL2.out (by omega) hu.1 (by omega)).mono ?_
    rintro e w3 ⟨v3, rfl, ho3, hb3⟩
    have hb03 : Below w.heap.size w w3 := hb02.trans (hb3.mono hb02.size)
    go_wp2_with fail
    refine (rput_any _ xs u _ (HV.out.below hb03 (Nat.le_refl _)) (by omega) hu.1 (by omega)).mono ?_
    rintro e w4 ⟨v4, rfl, ho4, hb4⟩
    have hb04 : Below w.heap.size w w4 := hb03.trans (hb4.mono hb03.size)
    go_wp2_with fail
    refine same_mono (same_any _ _ (xs ++ numB u) (xs ++ numB u) _ (ho3.has.below hb4 (Nat.le_refl _)) ho4.has hlB hlB) ?_
    rw [list_beq]
    have HL1' : Hid (Has w4 v1 (165 :: (xs ++ [90]))) := (HL1.out.below hb3 (Nat.le_refl _)).below hb4 (Nat.le_refl _)
    clear ho3 ho4 hb3 hb4 hb02 hb03 HL1 HL2
    go_wp2_with (first
      | (go_at_call 23; refine same_mono (zig_any _ _) ?_)
      | (go_at_call 24; refine same_mono (rzig_any _ _) ?_)
      | (go_at_call 25; refine same_mono (zag_any _ _) ?_)
      | (go_at_call 26; refine same_mono (rzag_any _ _) ?_)
      | (go_at_call 18; refine (kept_any _ _ xs _ HL1'.out (HV.out.below hb04 (Nat.le_refl _)) (by omega)).mono ?_; rintro e w5 ⟨rfl, hb5⟩; have hb05 := hb04.trans (hb5.mono hb04.size))
      | (go_at_call 9; refine (lives_any _ (hT.below hb05 (Nat.le_refl _))).mono ?_; rintro e w6 ⟨rfl, hb6⟩))
    go_ret
    exact ⟨rfl, hb05.trans (hb6.mono hb05.size)⟩
end Go.Proofs.YtmlekbabofldoaaDoor
