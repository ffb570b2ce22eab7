/-
  Contracts: corbelref01.of, low, Frame; codec.Frame of too many bytes.
-/
import Derived.Test.YtmlekbabofldoaaDoorRef4
namespace Go.Proofs.YtmlekbabofldoaaDoor
open Go.RowKit

def ofT (xs : List Int) : Nat → Int
  | 0 => 0
  | j + 1 => bits BinOp.or .u64 (ofT xs j) (IntKind.u64.wrap (xs.getD j 0 * 2 ^ (8 * j)))

theorem or_low64 (i : Nat) (x y : Int) (hx0 : 0 ≤ x) (hx1 : x < 2 ^ i) (hy0 : 0 ≤ y) (hy : y % 2 ^ i = 0) (hi : i ≤ 32) (hy1 : y < 4294967296) : bits BinOp.or .u64 x y = x + y := by
  have hp : (2 : Int) ^ i ≤ 2 ^ 32 := by exact_mod_cast Nat.pow_le_pow_right (n := 2) (by decide) hi
  exact bits_join_low .u64 64 (by decide) (fun n h0 h1 => by rw [IntKind.wrap_u64]; omega) i x y hx0 hx1 (by omega) hy0 hy (by omega)
theorem ofT_low (xs : List Int) (h : IsB xs) : ∀ j, j ≤ 4 → ofT xs j = lowT xs j := by
  have h0 := h.getD 0
  have h1 := h.getD 1
  have h2 := h.getD 2
  have h3 := h.getD 3
  have e1 : ofT xs 1 = xs.getD 0 0 := by
    show bits BinOp.or .u64 0 (IntKind.u64.wrap (xs.getD 0 0 * 2 ^ 0)) = _
    rw [IntKind.wrap_u64, or_low64 0 _ _ (by omega) (by omega) (by omega) (by omega) (by omega) (by omega)]
    omega
  have e2 : ofT xs 2 = xs.getD 0 0 + xs.getD 1 0 * 256 := by
    show bits BinOp.or .u64 (ofT xs 1) (IntKind.u64.wrap (xs.getD 1 0 * 2 ^ 8)) = _
    rw [e1, IntKind.wrap_u64, or_low64 8 _ _ (by omega) (by omega) (by omega) (by omega) (by omega) (by omega)]
    omega
  have e3 : ofT xs 3 = xs.getD 0 0 + xs.getD 1 0 * 256 + xs.getD 2 0 * 65536 := by
    show bits BinOp.or .u64 (ofT xs 2) (IntKind.u64.wrap (xs.getD 2 0 * 2 ^ 16)) = _
    rw [e2, IntKind.wrap_u64, or_low64 16 _ _ (by omega) (by omega) (by omega) (by omega) (by omega) (by omega)]
    omega
  have e4 : ofT xs 4 = xs.getD 0 0 + xs.getD 1 0 * 256 + xs.getD 2 0 * 65536 + xs.getD 3 0 * 16777216 := by
    show bits BinOp.or .u64 (ofT xs 3) (IntKind.u64.wrap (xs.getD 3 0 * 2 ^ 24)) = _
    rw [e3, IntKind.wrap_u64, or_low64 24 _ _ (by omega) (by omega) (by omega) (by omega) (by omega) (by omega)]
    omega
  intro j hj
  match j, hj with
  | 0, _ => rfl
  | 1, _ => rw [e1, lowT1 xs h]
  | 2, _ => rw [e2, lowT2 xs h]
  | 3, _ => rw [e3, lowT3 xs h]
  | 4, _ => rw [e4, lowT4 xs h]

set_option maxHeartbeats 400000 in
theorem rof_any (v : Value) (xs : List Int) (w : World) (hv : Has w v xs) (hl : xs.length ≤ 4) (hB : IsB xs) :
    Calls Tryd.prog 48 #[v] w fun e w' => e = .returned (.int .u64 (lowS xs)) ∧ w' = w := by
  obtain ⟨p, c, rfl, hc, hnone, hcell⟩ := hv
  clear hnone
  have HT : ∀ j, Hid (ofT xs (j + 1) = bits BinOp.or .u64 (ofT xs j) (IntKind.u64.wrap (xs.getD j 0 * 2 ^ (8 * j)))) := fun _ => rfl
  have HL : Hid (lowS xs = ofT xs xs.length) := by rw [Hid, lowS, ofT_low xs hB _ hl]
  have H0 : Hid (ofT xs 0 = 0) := rfl
  generalize ofT xs = G at *
  go_enter Tryd.func48, Tryd.ntmps48
  go_wp2
  go_loop [3, 8] (fun s i => ∃ j : Nat, j ≤ xs.length ∧ i = .int .i64 j ∧ s = .int .u64 (G j)) (fun _ i => xs.length - (intOf i).toNat)
  case atStart => exact ⟨0, Nat.zero_le _, rfl, by rw [H0.out]⟩
  case round =>
    obtain ⟨j, hj, rfl, rfl⟩ := hrel
    have H1 := HT j
    clear HT
    by_cases hlt : j < xs.length
    · obtain ⟨b, o, rfl, _, hcl⟩ := hcell (by omega)
      have h1 := hcl j hlt
      have hbb := hB.getD j
      clear hcl hcell hB
      generalize xs.getD j 0 = x at *
      go_wp2
      go_round
      case rel => exact ⟨j + 1, by omega, by go_num, by rw [H1.out]⟩
      case measure => simp [intOf]; omega
    · obtain rfl : j = xs.length := by omega
      go_wp2
      go_ret
      rw [HL.out]
      exact ⟨rfl, rfl⟩

set_option maxHeartbeats 400000 in
theorem rlow_any (u : Int) (n : Nat) (w : World) (hn : n ≤ 4) :
    Calls Tryd.prog 50 #[.int .u64 u, .int .i64 n] w fun e w' => ∃ v', e = .returned v' ∧ Owns w' w.heap.size 5 v' (lowB u n) ∧ Below w.heap.size w w' := by
  obtain ⟨i0, hi, hz0, hz1, hz2⟩ := info_parts info8
  go_enter Tryd.func50, Tryd.ntmps50
  go_wp2
  go_loopw [5, 6] (fun v i wr => ∃ j : Nat, j ≤ n ∧ i = .int .i64 j ∧ Owns wr w.heap.size 5 v ([] ++ lowB u j) ∧ Below w.heap.size w wr) (fun _ i _ => n - (intOf i).toNat)
  case atStart => exact ⟨0, Nat.zero_le _, rfl, Owns.nil _ _ _, Below.refl _ _⟩
  case round =>
    obtain ⟨j, hj, rfl, hr, hbr⟩ := hrel
    by_cases hlt : j < n
    · go_wp2_with (at_builtin; refine ap_one _ rfl (.tmp 12) (.tmp 19) 22 rfl w.heap.size 5 i0 Tryd.underlying22 hi hz0 hz1 hz2 _ _ (u / 2 ^ (8 * j) % 256) rfl rfl (by exact hr) (by simp [lowB]; omega) hbr.size ?_; intro v2 w2 hown2 hbel2)
      go_roundw
      case rel => exact ⟨j + 1, by omega, by go_num, by rw [← lowB_step]; exact hown2, hbr.trans hbel2⟩
      case measure => simp [intOf]; omega
    · obtain rfl : j = n := by omega
      rw [List.nil_append] at hr
      go_wp2
      go_ret
      exact ⟨_, rfl, hr, hbr⟩

/-- Frames, also of too many bytes: none. -/
def frameF (xs : List Int) : List Int := if 1048576 < xs.length then [] else frameB xs

set_option maxHeartbeats 400000 in
theorem frame_all (v : Value) (xs : List Int) (w : World) (hT : Tab w) (hv : Has w v xs) (hl : xs.length ≤ 1099511627776) (hB : IsB xs) :
    Calls Tryd.prog 16 #[v] w fun e w' => ∃ v', e = .returned v' ∧ Has w' v' (frameF xs) ∧ Below w.heap.size w w' := by
  by_cases hbig : 1048576 < xs.length
  · have HF : Hid (frameF xs = []) := by rw [Hid, frameF, if_pos hbig]
    obtain ⟨p, c, rfl, hc, hnone, hcell⟩ := id hv
    clear hnone hcell
    go_enter Tryd.func16, Tryd.ntmps16
    go_wp2
    go_ret
    exact ⟨_, rfl, by rw [HF.out]; exact Has.nil _, Below.refl _ _⟩
  · refine (frame_any v xs w hT hv (by omega) hB).mono ?_
    rintro e w' ⟨v', rfl, ho, hb⟩
    exact ⟨_, rfl, by rw [frameF, if_neg hbig]; exact ho.has, hb⟩

set_option maxHeartbeats 1000000 in
theorem rframe_any (v : Value) (xs : List Int) (w : World) (hv : Has w v xs) (hl : xs.length ≤ 1099511627776) (hB : IsB xs) :
    Calls Tryd.prog 17 #[v] w fun e w' => ∃ v', e = .returned v' ∧ Has w' v' (frameF xs) ∧ Below w.heap.size w w' := by
  obtain ⟨i0, hi, hz0, hz1, hz2⟩ := info_parts info8
  obtain ⟨p, c, rfl, hc, hnone, hcell⟩ := id hv
  clear hnone hcell
  by_cases hbig : 1048576 < xs.length
  · have HF : Hid (frameF xs = []) := by rw [Hid, frameF, if_pos hbig]
    go_enter Tryd.func17, Tryd.ntmps17
    go_wp2
    go_ret
    exact ⟨_, rfl, by rw [HF.out]; exact Has.nil _, Below.refl _ _⟩
  · have HF : Hid (frameF xs = frameB xs) := by rw [Hid, frameF, if_neg hbig]
    have hsb := sumS_bd (frameH xs)
    go_enter Tryd.func17, Tryd.ntmps17
    go_wp2_with fail
    refine (rlow_any _ 3 _ (by omega)).mono ?_
    rintro e w1 ⟨v1, rfl, ho1, hb1⟩
    have hol : Owns (w.alloc (.cells #[.int .u8 197] 5)) w.heap.size 5 (.slice (some ⟨w.heap.size, 0, none⟩) 1 1) [197] := Owns.lit w w.heap.size [197] 5 (Nat.le_refl _) (by simp)
    have HOL : Hid (Owns w1 w.heap.size 5 (.slice (some ⟨w.heap.size, 0, none⟩) 1 1) [197]) := hol.below hb1 (Nat.le_refl _)
    have hb01 : Below w.heap.size w w1 := ((Below.refl w.heap.size w).alloc (Nat.le_refl _) _).trans (hb1.mono (by simp))
    clear hol hb1
    go_wp2_with (first
      | (at_builtin; refine ap_slice _ rfl (.tmp 7) (.tmp 11) 22 rfl w.heap.size 5 i0 Tryd.underlying22 hi hz0 hz1 hz2 _ [197] _ rfl (by exact ho1.has) (by exact HOL.out) (by simp) (by rw [lowB_length]; omega) (by exact hb01.size) ?_; intro v2 w2 ho2 hb2)
      | (at_builtin; refine ap_slice _ rfl (.tmp 13) (.tmp 14) 22 rfl w.heap.size 5 i0 Tryd.underlying22 hi hz0 hz1 hz2 _ _ xs rfl (by exact hv.below (hb01.trans hb2) (Nat.le_refl _)) (by exact ho2) (by simp [lowB]) (by omega) (by exact (hb01.trans hb2).size) ?_; intro v3 w3 ho3 hb3))
    have hb03 : Below w.heap.size w w3 := (hb01.trans hb2).trans hb3
    have ho : Owns w3 w.heap.size 5 v3 (frameH xs) := ho3
    clear ho3 ho2 ho1 hb2 hb3 hb01 HOL
    refine same_mono (rsum_any _ (frameH xs) _ ho.has (by rw [frameH_length]; omega) (frameH_isB hB)) ?_
    go_wp2_with fail
    refine (rlow_any _ 4 _ (by omega)).mono ?_
    rintro e w4 ⟨v4, rfl, ho4, hb4⟩
    have HO : Hid (Owns w4 w.heap.size 5 v3 (frameH xs)) := ho.below hb4 (Nat.le_refl _)
    have hb04 : Below w.heap.size w w4 := hb03.trans (hb4.mono hb03.size)
    clear ho hb4 hb03
    go_wp2_with (at_builtin; refine ap_slice _ rfl (.tmp 16) (.tmp 20) 22 rfl w.heap.size 5 i0 Tryd.underlying22 hi hz0 hz1 hz2 _ (frameH xs) _ rfl (by exact ho4.has) (by exact HO.out) (by rw [frameH_length]; omega) (by rw [lowB_length]; omega) (by exact hb04.size) ?_; intro v5 w5 ho5 hb5)
    go_ret
    exact ⟨_, rfl, by rw [HF.out]; exact ho5.has, hb04.trans hb5⟩
end Go.Proofs.YtmlekbabofldoaaDoor
