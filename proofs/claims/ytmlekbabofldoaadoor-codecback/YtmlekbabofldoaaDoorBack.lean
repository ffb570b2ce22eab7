/-
  The law CodecBack: its walk.
-/
import Derived.Test.YtmlekbabofldoaaDoorW8
import Derived.Test.YtmlekbabofldoaaDoorBack0
namespace Go.Proofs.YtmlekbabofldoaaDoor
open Go.RowKit

theorem rotL_eq (x : Int) (h0 : 0 ≤ x) (h1 : x < 18446744073709551616) : rotL x = x * 2 % 18446744073709551616 + x / 9223372036854775808 := by
  unfold rotL
  rw [IntKind.wrap_u64, bits_join .u64 64 (by decide) (fun n h0 h1 => by rw [IntKind.wrap_u64]; omega) 1 _ _ (by omega) (by omega) (by omega) (by omega) (by omega) (by omega)]
theorem rotR_eq (x : Int) (h0 : 0 ≤ x) (h1 : x < 18446744073709551616) : rotR x = x % 2 * 9223372036854775808 + x / 2 := by
  unfold rotR
  have e : IntKind.u64.wrap (x * 9223372036854775808) = x % 2 * 9223372036854775808 := by rw [IntKind.wrap_u64]; omega
  rw [e, bits_join .u64 64 (by decide) (fun n h0 h1 => by rw [IntKind.wrap_u64]; omega) 63 _ _ (by omega) (by omega) (by omega) (by omega) (by omega) (by omega)]
theorem rotR_rotL (x : Int) (h0 : 0 ≤ x) (h1 : x < 18446744073709551616) : rotR (rotL x) = x := by
  rw [rotL_eq x h0 h1]
  by_cases h : x < 9223372036854775808
  · have e : x * 2 % 18446744073709551616 + x / 9223372036854775808 = x * 2 := by omega
    rw [e, rotR_eq _ (by omega) (by omega)]
    omega
  · have e : x * 2 % 18446744073709551616 + x / 9223372036854775808 = x * 2 - 18446744073709551616 + 1 := by omega
    rw [e, rotR_eq _ (by omega) (by omega)]
    omega
theorem zag_zig (n : Int) (h0 : -9223372036854775808 ≤ n) (h1 : n ≤ 9223372036854775807) : zagS (zigS n) = n := by
  unfold zagS zigS
  rw [rotR_rotL _ (by rw [IntKind.wrap_u64]; omega) (by rw [IntKind.wrap_u64]; omega), IntKind.wrap_u64]
  unfold wrap64
  omega

theorem textB_isB (s : ByteArray) : IsB (textB s) := IsB.append (numB_isB _) (strB_isB s)
theorem boolB_isB (b : Bool) : IsB [boolB b] := IsB.cons (by cases b <;> simp [boolB]) IsB.nil
theorem getTextS_textB (s : ByteArray) (r : List Int) (h : s.size ≤ 10000) : getTextS (textB s ++ r) = (strB s, (textB s).length) := by
  have := getTextS_put (strB s) r (by rw [strB_length]; omega)
  rw [strB_length] at this
  rw [show textB s ++ r = numB (s.size : Int) ++ strB s ++ r from rfl, this, textB, List.length_append, strB_length]
theorem strOfNums_strB (s : ByteArray) : strOfNums (strB s) = s := by
  unfold strB
  rw [strOfNums_bytes]

theorem loseS_append (ys zs : List Int) (b : Bool) (h : 0 < ys.length) : loseS (ys ++ zs) b ys.length = (zs, b) := by
  unfold loseS
  rw [if_neg (by omega), List.drop_left]

theorem rd_new (w : World) (v : Value) (xs : List Int) (t : TypeId) (h : Has w v xs) : Rd (w.alloc (.cells #[v, .bool false] t)) w.heap.size w.heap.size v xs false :=
  ⟨by simp, Nat.le_refl _, by simp, by simp, by simp, by simp, h.inn.below ((Below.refl w.heap.size w).alloc (Nat.le_refl _) _) (Nat.le_refl _)⟩

set_option maxHeartbeats 1000000 in
theorem back_any (u : Int) (s : ByteArray) (is : Bool) (w : World) (hT : Tab w) (hu : 0 ≤ u ∧ u ≤ 18446744073709551615) (hs : s.size ≤ maxLen) :
    Calls Tryd.prog 8 #[.int .u64 u, .string s, .bool is] w fun e w' => e = .returned (.bool true) ∧ Below w.heap.size w w' := by
  unfold maxLen at hs
  by_cases hlong : 10000 < s.size
  · go_enter Tryd.func8, Tryd.ntmps8
    go_wp2_with (go_at_call 9; refine (lives_any _ hT).mono ?_; rintro e w1 ⟨rfl, hb1⟩)
    go_ret
    exact ⟨rfl, hb1⟩
  · have hnl := numB_le u
    have htl : (textB s).length ≤ 10009 := by rw [textB, List.length_append, strB_length]; have := numB_le s.size; omega
    have HX : ∃ x0, Hid (x0 = numB u ++ textB s ++ [boolB is]) ∧ x0.length ≤ 20000 ∧ IsB x0 :=
      ⟨_, rfl, by simp only [List.length_append, List.length_cons, List.length_nil]; omega, IsB.append (IsB.append (numB_isB u) (textB_isB s)) (boolB_isB is)⟩
    have HN : Hid (getS (numB u ++ (textB s ++ [boolB is])) = (u, (numB u).length)) := by rw [Hid, getS_numB u hu.1 (by omega), numB_length]
    have HTx : Hid (getTextS (textB s ++ [boolB is]) = (strB s, (textB s).length)) := getTextS_textB s _ (by omega)
    have HBo : Hid (getBoolS [boolB is] = (is, 1)) := getBoolS_put is []
    have hnp : 0 < (numB u).length := by rw [numB_length]; omega
    have htp : 0 < (textB s).length := by rw [textB, List.length_append, numB_length]; omega
    go_enter Tryd.func8, Tryd.ntmps8
    go_wp2_with (first
      | (go_at_call 21; refine (put_any _ [] u _ (Has.nil _) (by simp) hu.1 (by omega)).mono ?_; rintro e w1 ⟨v1, rfl, ho1, hb1⟩; rw [List.nil_append] at ho1)
      | (go_at_call 31; refine (putText_any _ (numB u) s _ ho1.has (by omega) (by omega)).mono ?_; rintro e w2 ⟨v2, rfl, ho2, hb2⟩)
      | (go_at_call 33; refine (putBool_any _ (numB u ++ textB s) is _ ho2.has (by rw [List.length_append]; omega)).mono ?_; rintro e w3 ⟨v3, rfl, ho3, hb3⟩; obtain ⟨x0, HX0, hl0, hB0⟩ := HX; rw [← HX0.out] at ho3; obtain ⟨p3, c3, rfl, _, _, _⟩ := id ho3.has))
    have hb03 : Below w.heap.size w w3 := (hb1.trans (hb2.mono hb1.size)).trans (hb3.mono (hb1.trans (hb2.mono hb1.size)).size)
    have hR0 := rd_new w3 _ x0 53 ho3.has
    have hbR : Below w.heap.size w (w3.alloc (.cells #[.slice p3 x0.length c3, .bool false] 53)) := hb03.alloc hb03.size _
    refine (num_any _ w3.heap.size w3.heap.size _ x0 false hR0 hB0 (by omega)).mono ?_
    rintro e w4 ⟨rfl, ⟨v4, hr4⟩, hg4⟩
    have HB4 : Hid (Below w.heap.size w w4) := hbR.grown hg4 hbR.size (fun k hk => by cases hk; exact hb03.size)
    have e4 : getS (srcS x0 false) = (u, (numB u).length) := by rw [show srcS x0 false = x0 from rfl, HX0.out, List.append_assoc]; exact HN.out
    rw [e4]
    rw [e4, HX0.out, List.append_assoc, loseS_append _ _ _ hnp] at hr4
    have HR4 : Hid (Rd w4 w3.heap.size w3.heap.size v4 (textB s ++ [boolB is]) false) := hr4
    clear hr4 e4 hg4 hR0 hbR ho1 ho2 ho3 hb1 hb2 hb3 hB0 hl0 HX0
    have hrb : w.heap.size ≤ w3.heap.size := hb03.size
    clear hb03
    generalize w3.heap.size = rb at *
    go_wp2_with fail
    refine (text_any _ rb rb _ _ false HR4.out (IsB.append (textB_isB s) (boolB_isB is)) (by simp only [List.length_append, List.length_cons, List.length_nil]; omega)).mono ?_
    rintro e w5 ⟨rfl, ⟨v5, hr5⟩, hg5⟩
    have HB5 : Hid (Below w.heap.size w w5) := HB4.out.grown hg5 HB4.out.size (fun k hk => by cases hk; exact hrb)
    have e5 : getTextS (srcS (textB s ++ [boolB is]) false) = (strB s, (textB s).length) := HTx.out
    rw [e5, strOfNums_strB]
    rw [e5, loseS_append _ _ _ htp] at hr5
    have HR5 : Hid (Rd w5 rb rb v5 [boolB is] false) := hr5
    clear hr5 e5 hg5 HR4 HB4
    go_wp2_with fail
    refine (bool_any _ rb rb _ [boolB is] false HR5.out (boolB_isB is) (by simp)).mono ?_
    rintro e w6 ⟨rfl, ⟨v6, hr6⟩, hg6⟩
    have HB6 : Hid (Below w.heap.size w w6) := HB5.out.grown hg6 HB5.out.size (fun k hk => by cases hk; exact hrb)
    have e6 : getBoolS (srcS [boolB is] false) = (is, 1) := HBo.out
    rw [e6]
    rw [e6, show loseS [boolB is] false 1 = ([], false) from rfl] at hr6
    have HR6 : Hid (Rd w6 rb rb v6 [] false) := hr6
    clear hr6 e6 hg6 HR5 HB5
    go_wp2_with fail
    refine same_mono (end_any _ rb rb v6 [] false HR6.out) ?_
    rw [show (List.isEmpty ([] : List Int) && !false) = true from rfl]
    go_wp2_with fail
    refine same_mono (zig_any _ _) ?_
    go_wp2_with fail
    refine same_mono (zag_any _ _) ?_
    rw [zag_zig _ (by unfold wrap64; omega) (by unfold wrap64; omega)]
    go_wp2_with fail
    refine (num_any _ rb rb v6 [] false HR6.out IsB.nil (by simp)).mono ?_
    rintro e w7 ⟨rfl, ⟨v7, hr7⟩, hg7⟩
    have HB7 : Hid (Below w.heap.size w w7) := HB6.out.grown hg7 HB6.out.size (fun k hk => by cases hk; exact hrb)
    have e7 : getS (srcS [] false) = (0, 0) := getS_nil
    rw [e7]
    rw [e7, show loseS [] false 0 = ([], true) from rfl] at hr7
    have HR7 : Hid (Rd w7 rb rb v7 [] true) := hr7
    have c7 := hr7.c1
    clear hr7 e7 hg7 HR6 HB6
    go_wp2_with fail
    refine same_mono (end_any _ rb rb v7 [] true HR7.out) ?_
    rw [show (List.isEmpty ([] : List Int) && !true) = false from rfl]
    go_wp2_with fail
    refine (lives_any _ (hT.below HB7.out (Nat.le_refl _))).mono ?_
    rintro e w8 ⟨rfl, hb8⟩
    go_wp2
    go_ret
    exact ⟨rfl, HB7.out.trans (hb8.mono HB7.out.size)⟩
end Go.Proofs.YtmlekbabofldoaaDoor
