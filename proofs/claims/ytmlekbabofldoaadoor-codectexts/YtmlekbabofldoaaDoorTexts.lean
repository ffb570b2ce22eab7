/-
  The law CodecTexts: its walk.
-/
import Derived.Test.YtmlekbabofldoaaDoorW6
import Derived.Test.YtmlekbabofldoaaDoorRef3
import Derived.Test.YtmlekbabofldoaaDoorLend
import Derived.Test.YtmlekbabofldoaaDoorLives
import Derived.Test.YtmlekbabofldoaaDoorRowed
namespace Go.Proofs.YtmlekbabofldoaaDoor
open Go.RowKit

theorem list_beq2 (l : List Int) : (l == l) = true := by simp
theorem textB_isB2 (s : ByteArray) : IsB (textB s) := IsB.append (numB_isB _) (strB_isB s)
theorem boolB_isB2 (b : Bool) : IsB [boolB b] := IsB.cons (by cases b <;> simp [boolB]) IsB.nil

set_option maxHeartbeats 1000000 in
theorem texts_any (a0 : Option Addr) (len0 cap0 : Nat) (z0 : List Int) (s : ByteArray) (is : Bool) (w : World) (hT : Tab w) (hr : IsRow .u8 w a0 len0 cap0 z0) (_hs : s.size ≤ maxLen) (hl0 : len0 ≤ 140737488351232) (hs0 : s.size ≤ 140737488351232) :
    Calls Tryd.prog 5 #[.slice a0 len0 cap0, .string s, .bool is] w fun e w' => e = .returned (.bool true) ∧ Below w.heap.size w w' := by
  obtain ⟨hv, hB, hlen⟩ := hr.has
  clear _hs
  generalize z0.take len0 = xs at *
  clear hr
  by_cases hlong : 10000 < len0 + s.size
  · go_enter Tryd.func5, Tryd.ntmps5
    go_wp2_with (go_at_call 9; refine (lives_any _ hT).mono ?_; rintro e w1 ⟨rfl, hb1⟩)
    go_ret
    exact ⟨rfl, hb1⟩
  · have HV : Hid (Has w (.slice a0 len0 cap0) xs) := hv
    have hlB : IsB (xs ++ textB s) := IsB.append hB (textB_isB2 s)
    have hlC : IsB (xs ++ [boolB is]) := IsB.append hB (boolB_isB2 is)
    clear hv
    go_enter Tryd.func5, Tryd.ntmps5
    go_wp2_with fail
    refine (lend_any _ xs _ HV.out (by omega)).mono ?_
    rintro e w1 ⟨v1, v2, rfl, hl1, hl2, hb1⟩
    go_wp2_with fail
    refine (getText_any _ xs _ hl2 hB (by omega)).mono ?_
    rintro e w2 ⟨rfl, hb2⟩
    have hb02 : Below w.heap.size w w2 := hb1.trans (hb2.mono hb1.size)
    have HL1 : Hid (Has w2 v1 (165 :: (xs ++ [90]))) := hl1.below hb2 (Nat.le_refl _)
    have HL2 : Hid (Has w2 v2 xs) := hl2.below hb2 (Nat.le_refl _)
    clear hl1 hl2 hb1 hb2
    go_wp2_with fail
    refine (rgetText_any _ xs _ (HV.out.below hb02 (Nat.le_refl _)) hB (by omega)).mono ?_
    rintro e w3 ⟨rfl, hb3⟩
    have hb03 : Below w.heap.size w w3 := hb02.trans (hb3.mono hb02.size)
    go_wp2_with fail
    refine same_mono (getBool_any _ xs _ (HL2.out.below hb3 (Nat.le_refl _)) hB (by omega)) ?_
    go_wp2_with fail
    refine same_mono (rgetBool_any _ xs _ (HV.out.below hb03 (Nat.le_refl _)) hB (by omega)) ?_
    go_wp2_with fail
    refine (putText_any _ xs s _ (HL2.out.below hb3 (Nat.le_refl _)) (by omega) (by omega)).mono ?_
    rintro e w4 ⟨v4, rfl, ho4, hb4⟩
    have hb04 : Below w.heap.size w w4 := hb03.trans (hb4.mono hb03.size)
    go_wp2_with fail
    refine (rputText_any _ xs s _ (HV.out.below hb04 (Nat.le_refl _)) (by omega) (by omega)).mono ?_
    rintro e w5 ⟨v5, rfl, ho5, hb5⟩
    have hb05 : Below w.heap.size w w5 := hb04.trans (hb5.mono hb04.size)
    go_wp2_with fail
    refine same_mono (same_any _ _ (xs ++ textB s) (xs ++ textB s) _ (ho4.has.below hb5 (Nat.le_refl _)) ho5.has hlB hlB) ?_
    rw [list_beq2]
    have HL1' : Hid (Has w5 v1 (165 :: (xs ++ [90]))) := ((HL1.out.below hb3 (Nat.le_refl _)).below hb4 (Nat.le_refl _)).below hb5 (Nat.le_refl _)
    have HL2' : Hid (Has w5 v2 xs) := ((HL2.out.below hb3 (Nat.le_refl _)).below hb4 (Nat.le_refl _)).below hb5 (Nat.le_refl _)
    clear ho4 ho5 hb3 hb4 hb5 hb02 hb03 hb04 HL1 HL2
    go_wp2_with fail
    refine (putBool_any _ xs is _ HL2'.out (by omega)).mono ?_
    rintro e w6 ⟨v6, rfl, ho6, hb6⟩
    have hb06 : Below w.heap.size w w6 := hb05.trans (hb6.mono hb05.size)
    go_wp2_with fail
    refine (rputBool_any _ xs is _ (HV.out.below hb06 (Nat.le_refl _)) (by omega)).mono ?_
    rintro e w7 ⟨v7, rfl, ho7, hb7⟩
    have hb07 : Below w.heap.size w w7 := hb06.trans (hb7.mono hb06.size)
    go_wp2_with fail
    refine same_mono (same_any _ _ (xs ++ [boolB is]) (xs ++ [boolB is]) _ (ho6.has.below hb7 (Nat.le_refl _)) ho7.has hlC hlC) ?_
    rw [list_beq2]
    have HL1'' : Hid (Has w7 v1 (165 :: (xs ++ [90]))) := (HL1'.out.below hb6 (Nat.le_refl _)).below hb7 (Nat.le_refl _)
    clear ho6 ho7 hb6 hb7 hb05 hb06 HL1' HL2'
    go_wp2_with (first
      | (go_at_call 18; refine (kept_any _ _ xs _ HL1''.out (HV.out.below hb07 (Nat.le_refl _)) (by omega)).mono ?_; rintro e w8 ⟨rfl, hb8⟩; have hb08 := hb07.trans (hb8.mono hb07.size))
      | (go_at_call 9; refine (lives_any _ (hT.below hb08 (Nat.le_refl _))).mono ?_; rintro e w9 ⟨rfl, hb9⟩))
    go_ret
    exact ⟨rfl, hb08.trans (hb9.mono hb08.size)⟩
end Go.Proofs.YtmlekbabofldoaaDoor
