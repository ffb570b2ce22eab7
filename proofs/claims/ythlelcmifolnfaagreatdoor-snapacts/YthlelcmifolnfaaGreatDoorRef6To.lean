import Derived.Test.YthlelcmifolnfaaGreatDoorWaXTo
import Derived.Test.YthlelcmifolnfaaGreatDoorFrm0
import Derived.BigQuiet
import Derived.WalkSmall
import Derived.Deep.RegionLaw
namespace Go.Proofs.YthlelcmifolnfaaGreatDoor
open Go.RowKit
set_option maxRecDepth 100000 in
set_option maxHeartbeats 1000000 in
theorem low_any (v : Value) (xs : List Int) (w : World) (hv : Has w v xs) (hl : xs.length ≤ 4) (hB : IsB xs) :
    Calls Tryz.prog 113 #[v] w fun e w' => e = .returned (.int .u32 (lowS xs)) ∧ w' = w := by
  obtain ⟨p, c, rfl, hc, hnone, hcell⟩ := hv
  clear hnone
  have HT : ∀ j, Hid (lowT xs (j + 1) = bits BinOp.or .u32 (lowT xs j) (xs.getD j 0 * 2 ^ (8 * j) % 4294967296)) := fun _ => rfl
  have HB := lowT_bd xs
  have HL : Hid (lowS xs = lowT xs xs.length) := rfl
  have H0 : Hid (lowT xs 0 = 0) := rfl
  generalize lowT xs = G at *
  go_enter Tryz.func113, Tryz.ntmps113
  go_wp2
  go_loop [3, 8] (fun s i => ∃ j : Nat, j ≤ xs.length ∧ i = .int .i64 j ∧ s = .int .u32 (G j)) (fun _ i => xs.length - (intOf i).toNat)
  case atStart => exact ⟨0, Nat.zero_le _, rfl, by rw [H0.out]⟩
  case round =>
    obtain ⟨j, hj, rfl, rfl⟩ := hrel
    have hb := HB j
    have H1 := HT j
    clear HB HT
    by_cases hlt : j < xs.length
    · obtain ⟨b, o, rfl, _, hcl⟩ := hcell (by omega)
      have h1 := hcl j hlt
      have hbb := hB.getD j
      clear hcl hcell hB
      generalize xs.getD j 0 = x at *
      go_wp2
      go_round
      case rel => exact ⟨j + 1, by omega, by go_num, by rw [H1.out]⟩
      case measure => simp [intOf]; omega
    · obtain rfl : j = xs.length := by omega
      go_wp2
      go_ret
      rw [HL.out]
      exact ⟨rfl, rfl⟩

theorem lowS_bd (xs : List Int) : 0 ≤ lowS xs ∧ lowS xs ≤ 4294967295 := lowT_bd _ _

set_option maxRecDepth 100000 in
set_option maxHeartbeats 1000000 in
theorem unframe_any (v : Value) (xs : List Int) (w : World) (hT : Tab w) (hv : Has w v xs) (hl : xs.length ≤ 1099511627776) (hB : IsB xs) :
    Calls Tryz.prog 51 #[v] w fun e w' => ∃ v', e = .returned (.tuple #[v', .int .i64 (unframeS xs).2.1, .int .i64 (unframeS xs).2.2]) ∧ Has w' v' (unframeS xs).1 ∧ Below w.heap.size w w' := by
  obtain ⟨i0, hi, hz0, hz1, hz2⟩ := info_parts info8c
  obtain ⟨p, c, rfl, hc, hnone, hcell⟩ := id hv
  clear hnone
  rcases Nat.eq_zero_or_pos xs.length with hn | hn
  · obtain rfl : xs = [] := List.eq_nil_of_length_eq_zero hn
    go_enter Tryz.func51, Tryz.ntmps51
    go_wp2
    go_ret3
    exact ⟨_, rfl, Has.nil _, Below.refl _ _⟩
  · obtain ⟨b, o, rfl, hbl, hcl⟩ := hcell hn
    have h1 := hcl 0 hn
    rw [Nat.add_zero] at h1
    have hne : ¬ xs.length = 0 := by omega
    have hnb : ((xs.length : Int) == 0) = false := by rw [beq_eq_false_iff_ne]; omega
    clear hcell
    by_cases hm : xs.getD 0 0 = 197
    · rw [hm] at h1
      by_cases h4 : xs.length < 4
      · have HU : Hid (unframeS xs = ([], 0, 10)) := by rw [Hid, unframeS, if_neg hne, if_neg (fun h => h hm), if_pos h4]
        go_enter Tryz.func51, Tryz.ntmps51
        go_wp2
        go_ret3
        rw [HU.out]
        exact ⟨_, rfl, Has.nil _, Below.refl _ _⟩
      · have hcut3 := hv.cutAt 1 3 (by omega)
        have hB3 := IsB.cutB hB 1 3
        have hbd := lowS_bd ((xs.drop 1).take 3)
        have HC : Hid (cntS xs = (lowS ((xs.drop 1).take 3)).toNat) := rfl
        have h3l : ((xs.drop 1).take 3).length ≤ 4 := by rw [List.length_take]; omega
        generalize (xs.drop 1).take 3 = ys at *
        by_cases hbig : 1048576 < lowS ys
        · have HU : Hid (unframeS xs = ([], 0, 6)) := by rw [Hid, unframeS, if_neg hne, if_neg (fun h => h hm), if_neg h4, if_pos (by rw [HC.out]; omega)]
          go_enter Tryz.func51, Tryz.ntmps51
          go_wp2_with (go_at_call 113; refine same_mono (low_any _ ys _ hcut3 h3l hB3) ?_)
          go_ret3
          rw [HU.out]
          exact ⟨_, rfl, Has.nil _, Below.refl _ _⟩
        · obtain ⟨n, hn'⟩ : ∃ n : Nat, lowS ys = n := ⟨(lowS ys).toNat, by omega⟩
          have HN : Hid (lowS ys = (n : Int)) := hn'
          have hcn : cntS xs = n := by rw [HC.out, hn']; rfl
          rw [hn'] at hbd hbig
          clear hn' HC
          by_cases hsh : xs.length < n + 8
          · have HU : Hid (unframeS xs = ([], 0, 10)) := by rw [Hid, unframeS, if_neg hne, if_neg (fun h => h hm), if_neg h4, hcn, if_neg (by omega), if_pos hsh]
            clear hcn
            go_enter Tryz.func51, Tryz.ntmps51
            go_wp2_with (go_at_call 113; refine same_mono (low_any _ ys _ hcut3 h3l hB3) ?_; rw [HN.out])
            go_ret3
            rw [HU.out]
            exact ⟨_, rfl, Has.nil _, Below.refl _ _⟩
          · have hs1 := hv.takeN (4 + n) (by omega)
            have hs2 := hv.cutAt (4 + n) 4 (by omega)
            have hB1 := IsB.takeB hB (4 + n)
            have hB2 := IsB.cutB hB (4 + n) 4
            have hl2 : ((xs.drop (4 + n)).take 4).length ≤ 4 := by rw [List.length_take]; omega
            have hl1 : (xs.take (4 + n)).length ≤ 1099511627776 := by rw [List.length_take]; omega
            have HUeq : Hid (unframeS xs = if sumS (xs.take (4 + n)) ≠ lowS ((xs.drop (4 + n)).take 4) then ([], 0, 8) else ((xs.drop 4).take n, (n : Int) + 8, 0)) := by
              rw [Hid, unframeS, if_neg hne, if_neg (fun h => h hm), if_neg h4, hcn, if_neg (by omega), if_neg hsh]
            clear hcn
            generalize xs.take (4 + n) = y1 at *
            generalize (xs.drop (4 + n)).take 4 = y2 at *
            by_cases heq : sumS y1 = lowS y2
            · have HU : Hid (unframeS xs = ((xs.drop 4).take n, (n : Int) + 8, 0)) := by rw [Hid, HUeq.out, if_neg (fun h => h heq)]
              have hneq : (sumS y1 != lowS y2) = false := by rw [heq]; simp
              have hs4 := hv.cutAt 4 n (by omega)
              have hl4 : ((xs.drop 4).take n).length ≤ 1048576 := by rw [List.length_take]; omega
              clear HUeq
              go_enter Tryz.func51, Tryz.ntmps51
              go_wp2_with (go_at_call 113; refine same_mono (low_any _ ys _ hcut3 h3l hB3) ?_; rw [HN.out])
              go_quiet (first | (go_at_call 114; exact Calls.quiet_of_same (sum_cod _ y1 _ (by first | exact hT | exact hT.below (below_drewN (Below.refl _ _) _) (Nat.le_refl _)) (by first | exact hs1 | exact hs1.below (below_drewN (Below.refl _ _) _) (Nat.le_refl _)) hl1 hB1)) | (go_at_call 113; exact Calls.quiet_of_same (low_any _ y2 _ (by first | exact hs2 | exact hs2.below (below_drewN (Below.refl _ _) _) (Nat.le_refl _)) hl2 hB2)))
              rw [heq]
              clear heq hneq hs1 hs2 hB1 hB2 hl1 hl2 hcut3 hB3 h3l hcl
              obtain ⟨M, hM, hmk⟩ : ∃ M : Array Value, M.size = n * 1 ∧ ∀ W : World, (Instr.makeSlice 25 (.int .i64 0) (.int .u32 (n : Int))).run Tryz.prog W = .ok (.slice (some ⟨W.heap.size, 0, none⟩) 0 n) (W.alloc (.cells M 5)) :=
                ⟨madeCells (Value.int .u8 0).cells (n * i0.size), by rw [hz1]; exact size_madeCells _ _, fun W => run_make W 25 5 i0 (.int .u8 0) Tryz.underlying25 hi hz0 .i64 .u32 0 n (by omega) (by omega) (by rw [hz2]; omega) (by omega)⟩
              have q1 : (0 : Int) ≤ 4 + (n : Int) := by omega
              have q2 : (4 : Int) + (n : Int) ≤ (c : Int) := by omega
              have q3 : (4 : Int) ≤ max (4 + (n : Int)) 0 := by omega
              have q4 : ¬ c = 4 := by omega
              have q5 : ((4 : Int) + (n : Int)).toNat - 4 = n := by omega
              go_wp2_with fail
              go_region_law (refine step_slice _ rfl (.tmp 46) (.tmp 49) 25 rfl w.heap.size 5 i0 Tryz.underlying25 hi hz0 hz1 hz2 _ [] ((xs.drop 4).take n) rfl (by exact (hs4.below (below_drewN (Below.refl _ _) _) (Nat.le_refl _)).below ((Below.refl _ _).alloc (Nat.le_refl _) _) (Nat.le_refl _)) (by exact World.ownsRow_made _ M n (Nat.le_refl _) (by unfold maxLen; omega) hM) (by simp) (by omega) (by simp) ?_; intro v5 w5 ho5 hb5)
              rw [List.nil_append] at ho5
              have hb5w : Below w.heap.size w w5 := ((below_drewN (Below.refl w.heap.size w) (nq + 1)).alloc (Nat.le_refl _) _).trans hb5
              clear hb5
              go_wp2
              go_ret3
              rw [HU.out]
              exact ⟨_, congrArg (fun z => Ending.returned (Value.tuple #[v5, .int .i64 z, .int .i64 0])) (show (4 : Int) + (n : Int) + 4 = (n : Int) + 8 by omega), ho5.has, hb5w⟩
            · have HU : Hid (unframeS xs = ([], 0, 8)) := by rw [Hid, HUeq.out, if_pos heq]
              have hneq : (sumS y1 != lowS y2) = true := by simpa using heq
              clear HUeq
              go_enter Tryz.func51, Tryz.ntmps51
              go_wp2_with (go_at_call 113; refine same_mono (low_any _ ys _ hcut3 h3l hB3) ?_; rw [HN.out])
              go_quiet (first | (go_at_call 114; exact Calls.quiet_of_same (sum_cod _ y1 _ (by first | exact hT | exact hT.below (below_drewN (Below.refl _ _) _) (Nat.le_refl _) | (trace_state; fail)) (by first | exact hs1 | exact hs1.below (below_drewN (Below.refl _ _) _) (Nat.le_refl _)) hl1 hB1)) | (go_at_call 113; exact Calls.quiet_of_same (low_any _ y2 _ (by first | exact hs2 | exact hs2.below (below_drewN (Below.refl _ _) _) (Nat.le_refl _)) hl2 hB2)))
              go_wp2
              go_ret3
              rw [HU.out]
              exact ⟨_, rfl, Has.nil _, below_drewN (Below.refl _ _) _⟩
    · have HU : Hid (unframeS xs = ([], 0, 8)) := by rw [Hid, unframeS, if_neg hne, if_pos hm]
      have hmb : (xs.getD 0 0 != 197) = true := by simpa using hm
      generalize xs.getD 0 0 = x0 at *
      go_enter Tryz.func51, Tryz.ntmps51
      go_wp2
      go_ret3
      rw [HU.out]
      exact ⟨_, rfl, Has.nil _, Below.refl _ _⟩
theorem frameB_isB {xs : List Int} (h : IsB xs) : IsB (frameB xs) := IsB.append (frameH_isB h) (lowB_isB _ _)

theorem low3 (a b c : Int) (h : IsB [a, b, c]) : lowS [a, b, c] = a + b * 256 + c * 65536 := by
  rw [show lowS [a, b, c] = lowT [a, b, c] 3 from rfl, lowT3 _ h]; rfl
theorem low4 (a b c d : Int) (h : IsB [a, b, c, d]) : lowS [a, b, c, d] = a + b * 256 + c * 65536 + d * 16777216 := by
  rw [show lowS [a, b, c, d] = lowT [a, b, c, d] 4 from rfl, lowT4 _ h]; rfl
theorem lowS_lowB3 (u : Int) (h0 : 0 ≤ u) (h1 : u < 16777216) : lowS (lowB u 3) = u := by
  rw [show lowB u 3 = [u / 2 ^ 0 % 256, u / 2 ^ 8 % 256, u / 2 ^ 16 % 256] from rfl, low3 _ _ _ (lowB_isB u 3)]
  show u / 1 % 256 + u / 256 % 256 * 256 + u / 65536 % 256 * 65536 = u
  omega
theorem lowS_lowB4 (u : Int) (h0 : 0 ≤ u) (h1 : u < 4294967296) : lowS (lowB u 4) = u := by
  rw [show lowB u 4 = [u / 2 ^ 0 % 256, u / 2 ^ 8 % 256, u / 2 ^ 16 % 256, u / 2 ^ 24 % 256] from rfl, low4 _ _ _ _ (lowB_isB u 4)]
  show u / 1 % 256 + u / 256 % 256 * 256 + u / 65536 % 256 * 65536 + u / 16777216 % 256 * 16777216 = u
  omega

theorem cnt_frame (xs r : List Int) (h : xs.length ≤ 1048576) : cntS (frameB xs ++ r) = xs.length := by
  unfold cntS
  have e : ((frameB xs ++ r).drop 1).take 3 = lowB xs.length 3 := by simp [frameB, frameH, lowB, List.range_succ]
  rw [e, lowS_lowB3 _ (by omega) (by omega)]
  simp
theorem unframe_frame (xs r : List Int) (h : xs.length ≤ 1048576) : unframeS (frameB xs ++ r) = (xs, (xs.length : Int) + 8, 0) := by
  have hlen : (frameB xs ++ r).length = xs.length + 8 + r.length := by rw [List.length_append, frameB_length]
  have h0 : (frameB xs ++ r).getD 0 0 = 197 := by simp [frameB, frameH]
  have hc := cnt_frame xs r h
  have hH : (frameB xs ++ r).take (4 + xs.length) = frameH xs := by
    unfold frameB
    rw [List.append_assoc]
    exact List.take_left' (by rw [frameH_length]; omega)
  have hS : ((frameB xs ++ r).drop (4 + xs.length)).take 4 = lowB (sumS (frameH xs)) 4 := by
    unfold frameB
    rw [List.append_assoc, List.drop_left' (by rw [frameH_length]; omega)]
    exact List.take_left' (lowB_length _ _)
  have hX : ((frameB xs ++ r).drop 4).take xs.length = xs := by
    simp [frameB, frameH, lowB, List.range_succ]
  have hb := sumS_bd (frameH xs)
  unfold unframeS
  rw [if_neg (by omega), if_neg (fun h => h h0), if_neg (by omega), hc, if_neg (by omega), if_neg (by omega), hH, hS, lowS_lowB4 _ hb.1 (by omega), if_neg (fun h => h rfl), hX]

theorem xor_u32 (a b : Nat) (ha : a < 4294967296) (hb : b < 4294967296) : bits .xor .u32 (a : Int) (b : Int) = ((a ^^^ b : Nat) : Int) := by
  have hx : a ^^^ b < 2 ^ 32 := Nat.xor_lt_two_pow (by omega) (by omega)
  have h1 : (BitVec.ofInt 32 (a : Int)).toNat = a := by
    rw [BitVec.ofInt_natCast, BitVec.toNat_ofNat]; exact Nat.mod_eq_of_lt (by omega)
  have h2 : (BitVec.ofInt 32 (b : Int)).toNat = b := by
    rw [BitVec.ofInt_natCast, BitVec.toNat_ofNat]; exact Nat.mod_eq_of_lt (by omega)
  show IntKind.u32.wrap ((BitVec.ofInt 32 (a : Int) ^^^ BitVec.ofInt 32 (b : Int)).toNat : Int) = _
  rw [BitVec.toNat_xor, h1, h2, IntKind.wrap_u32]
  omega

theorem xor32_comm (a b : Int) (ha : 0 ≤ a ∧ a ≤ 4294967295) (hb : 0 ≤ b ∧ b ≤ 4294967295) : bits .xor .u32 a b = bits .xor .u32 b a := by
  obtain ⟨x, rfl⟩ := Int.eq_ofNat_of_zero_le ha.1
  obtain ⟨y, rfl⟩ := Int.eq_ofNat_of_zero_le hb.1
  rw [xor_u32 x y (by omega) (by omega), xor_u32 y x (by omega) (by omega), Nat.xor_comm]

theorem nib_top : ∀ i : Fin 16, (nib i.val).toNat / 268435456 = i.val ∧ 0 ≤ nib i.val ∧ nib i.val ≤ 4294967295 := by decide +kernel

theorem and15_eq (c : Int) (h0 : 0 ≤ c) (h1 : c ≤ 4294967295) : bits BinOp.and .u32 c 15 = c % 16 :=
  bits_mask .u32 32 (by decide) (fun n h0 h1 => by rw [IntKind.wrap_u32]; omega) 4 (by decide) c h0 (by omega)

theorem st1_nat (c : Nat) (h : c < 4294967296) : st1 c = ((c / 16 ^^^ (nib ((c % 16 : Nat) : Int)).toNat : Nat) : Int) := by
  unfold st1
  have hn := nib_top ⟨c % 16, by omega⟩
  simp only at hn
  rw [and15_eq c (by omega) (by omega), show ((c : Int) / 16) = ((c / 16 : Nat) : Int) by omega, show ((c : Int) % 16) = ((c % 16 : Nat) : Int) by omega]
  obtain ⟨m, hm⟩ := Int.eq_ofNat_of_zero_le hn.2.1
  rw [hm, xor_u32 _ _ (by omega) (by omega), Int.toNat_natCast]

def rB (c x : Int) : Nat → Int
  | 0 => c
  | k + 1 => if bits BinOp.and .u32 (bits BinOp.xor .u32 (rB c x k) (x / 2 ^ k)) 1 = 1 then bits BinOp.xor .u32 (rB c x k / 2) 2197175160 else rB c x k / 2

def rN (s : Nat) : Nat := s / 2 ^^^ (if s % 2 = 1 then 2197175160 else 0)

theorem xor_half (a b : Nat) : (a ^^^ b) / 2 = a / 2 ^^^ b / 2 := by
  have e : ∀ x : Nat, x / 2 = x >>> 1 := fun x => by rw [Nat.shiftRight_eq_div_pow]
  rw [e, e, e, Nat.shiftRight_xor_distrib]
theorem xor_odd (a b : Nat) : (a ^^^ b) % 2 = (a % 2 + b % 2) % 2 := by
  have h := Nat.testBit_xor a b 0
  simp only [Nat.testBit_zero] at h
  rcases Nat.mod_two_eq_zero_or_one a with ha | ha <;> rcases Nat.mod_two_eq_zero_or_one b with hb | hb <;> rcases Nat.mod_two_eq_zero_or_one (a ^^^ b) with hc | hc <;> simp_all
theorem rN_xor (a b : Nat) : rN (a ^^^ b) = rN a ^^^ rN b := by
  unfold rN
  rw [xor_half, xor_odd]
  rcases Nat.mod_two_eq_zero_or_one a with ha | ha <;> rcases Nat.mod_two_eq_zero_or_one b with hb | hb <;> simp only [ha, hb]
  · simp
  · simp [Nat.xor_assoc]
  · simp only [if_true]
    simp only [Nat.zero_ne_one, if_false, Nat.xor_zero]
    rw [Nat.xor_assoc, Nat.xor_assoc, Nat.xor_comm (b / 2)]
  · simp only [Nat.reduceAdd, Nat.reduceMod, if_true]
    simp only [Nat.zero_ne_one, if_false, Nat.xor_zero]
    rw [show a / 2 ^^^ 2197175160 ^^^ (b / 2 ^^^ 2197175160) = a / 2 ^^^ b / 2 ^^^ (2197175160 ^^^ 2197175160) from by
      rw [Nat.xor_assoc, Nat.xor_assoc, ← Nat.xor_assoc 2197175160, Nat.xor_comm 2197175160 (b / 2), Nat.xor_assoc]]
    simp
theorem rN_even (m : Nat) : rN (2 * m) = m := by
  unfold rN
  simp

theorem xor_split : ∀ (k t i : Nat), i < 2 ^ k → (2 ^ k * t) ^^^ i = 2 ^ k * t + i
  | 0, t, i, h => by
    have : i = 0 := by simpa using h
    subst this; simp
  | k + 1, t, i, h => by
    have ih := xor_split k t (i / 2) (by rw [Nat.pow_succ] at h; omega)
    have h1 := xor_half (2 ^ (k + 1) * t) i
    have h2 := xor_odd (2 ^ (k + 1) * t) i
    have e : 2 ^ (k + 1) * t = 2 * (2 ^ k * t) := by rw [Nat.pow_succ, Nat.mul_comm (2 ^ k) 2, Nat.mul_assoc]
    rw [e] at h1 h2 ⊢
    rw [Nat.mul_div_cancel_left _ (by decide : 0 < 2), ih] at h1
    omega

theorem rN4_small : ∀ i : Fin 16, rN (rN (rN (rN i.val))) = (nib i.val).toNat := by decide +kernel
theorem rN4 (s : Nat) (h : s < 4294967296) : ((rN (rN (rN (rN s))) : Nat) : Int) = st1 s := by
  rw [st1_nat s h]
  have e : s = (2 ^ 4 * (s / 16)) ^^^ (s % 16) := by rw [xor_split 4 (s / 16) (s % 16) (by omega)]; omega
  conv => lhs; rw [e]
  rw [rN_xor, rN_xor, rN_xor, rN_xor]
  have e2 : rN (rN (rN (rN (2 ^ 4 * (s / 16))))) = s / 16 := by
    rw [show 2 ^ 4 * (s / 16) = 2 * (2 * (2 * (2 * (s / 16)))) by omega, rN_even, rN_even, rN_even, rN_even]
  rw [e2]
  have := rN4_small ⟨s % 16, by omega⟩
  simp only at this
  rw [this]

theorem rN_lt (s : Nat) (h : s < 4294967296) : rN s < 4294967296 := by
  unfold rN
  refine Nat.xor_lt_two_pow (n := 32) (by omega) ?_
  split <;> omega

def iter (f : Nat → Nat) : Nat → Nat → Nat
  | 0, s => s
  | k + 1, s => f (iter f k s)
theorem iter_lt (s : Nat) (h : s < 4294967296) : ∀ k, iter rN k s < 4294967296
  | 0 => h
  | k + 1 => rN_lt _ (iter_lt s h k)

theorem and1 (y : Int) (h0 : 0 ≤ y) (h1 : y ≤ 4294967295) : bits BinOp.and .u32 y 1 = y % 2 :=
  bits_mask .u32 32 (by decide) (fun n h0 h1 => by rw [IntKind.wrap_u32]; omega) 1 (by decide) y h0 (by omega)

theorem rB_nat (c x : Nat) (hc : c < 4294967296) (hx : x < 256) : ∀ k, rB c x k = ((iter rN k (c ^^^ x) ^^^ (x / 2 ^ k) : Nat) : Int)
  | 0 => by simp [rB, iter, Nat.xor_assoc]
  | k + 1 => by
    have hcx : c ^^^ x < 4294967296 := Nat.xor_lt_two_pow (n := 32) (by omega) (by omega)
    have hi := iter_lt (c ^^^ x) hcx k
    have ih := rB_nat c x hc hx k
    have hxk : x / 2 ^ k < 256 := Nat.lt_of_le_of_lt (Nat.div_le_self _ _) hx
    unfold rB
    rw [ih]
    show _ = ((rN (iter rN k (c ^^^ x)) ^^^ (x / 2 ^ (k + 1)) : Nat) : Int)
    have hdiv : x / 2 ^ (k + 1) = x / 2 ^ k / 2 := by rw [Nat.pow_succ, Nat.div_div_eq_div_mul]
    have hcast : ((x : Int) / 2 ^ k) = ((x / 2 ^ k : Nat) : Int) := by simp
    rw [hdiv, hcast]
    generalize iter rN k (c ^^^ x) = s at *
    generalize x / 2 ^ k = y at *
    have hsy : s ^^^ y < 4294967296 := Nat.xor_lt_two_pow (n := 32) (by omega) (by omega)
    have e1 : (s ^^^ y) ^^^ y = s := by simp [Nat.xor_assoc]
    rw [xor_u32 _ _ hsy (by omega), e1, and1 _ (by omega) (by omega)]
    have e2 : (((s ^^^ y : Nat) : Int) / 2) = ((s / 2 ^^^ y / 2 : Nat) : Int) := by rw [← xor_half]; omega
    have hh : s / 2 ^^^ y / 2 < 4294967296 := by rw [← xor_half]; omega
    rw [e2]
    unfold rN
    rcases Nat.mod_two_eq_zero_or_one s with h | h
    · rw [if_neg (by omega), if_neg (by omega), Nat.xor_zero]
    · rw [if_pos (by omega), if_pos h, show (2197175160 : Int) = ((2197175160 : Nat) : Int) from rfl, xor_u32 _ _ hh (by omega)]
      rw [Nat.xor_assoc, Nat.xor_assoc, Nat.xor_comm (y / 2)]

theorem rB_eight (c x : Int) (hc : 0 ≤ c ∧ c ≤ 4294967295) (hx : 0 ≤ x ∧ x ≤ 255) : rB c x 8 = stB c x := by
  obtain ⟨n, rfl⟩ := Int.eq_ofNat_of_zero_le hc.1
  obtain ⟨m, rfl⟩ := Int.eq_ofNat_of_zero_le hx.1
  have hn : n < 4294967296 := by omega
  have hm : m < 256 := by omega
  have hnm : n ^^^ m < 4294967296 := Nat.xor_lt_two_pow (n := 32) (by omega) (by omega)
  rw [rB_nat n m hn hm 8, Nat.div_eq_of_lt (show m < 2 ^ 8 by omega), Nat.xor_zero]
  unfold stB
  rw [xor_u32 n m hn (by omega), ← rN4 _ hnm]
  exact (rN4 _ (rN_lt _ (rN_lt _ (rN_lt _ (rN_lt _ hnm)))))

theorem xor_max (c : Int) (h : 0 ≤ c ∧ c ≤ 4294967295) : bits BinOp.xor .u32 c 4294967295 = bits BinOp.xor .u32 IntKind.u32.max c := by
  rw [xor32_comm c 4294967295 h (by decide)]
  rfl

theorem rB_bd (c x : Int) (hc : 0 ≤ c ∧ c ≤ 4294967295) : ∀ k, 0 ≤ rB c x k ∧ rB c x k ≤ 4294967295
  | 0 => hc
  | k + 1 => by
    have ih := rB_bd c x hc k
    unfold rB
    split
    · exact xor_bd _ _
    · omega

set_option maxRecDepth 100000 in
set_option maxHeartbeats 1000000 in
theorem rsum_any (v : Value) (xs : List Int) (w : World) (hv : Has w v xs) (hl : xs.length ≤ 1099511627776) (hB : IsB xs) :
    Calls Tryz.prog 49 #[v] w fun e w' => e = .returned (.int .u32 (sumS xs)) ∧ w' = w := by
  obtain ⟨p, c, rfl, hc, hnone, hcell⟩ := hv
  clear hnone
  go_enter Tryz.func49, Tryz.ntmps49
  go_wp2
  go_loop [3, 10] (fun s i => ∃ j : Nat, j ≤ xs.length ∧ i = .int .i64 j ∧ s = .int .u32 (crc (xs.take j))) (fun _ i => xs.length - (intOf i).toNat)
  case atStart => exact ⟨0, Nat.zero_le _, rfl, rfl⟩
  case round =>
    obtain ⟨j, hj, rfl, rfl⟩ := hrel
    by_cases hlt : j < xs.length
    · obtain ⟨b, o, rfl, _, hcl⟩ := hcell (by omega)
      have h1 := hcl j hlt
      have hb := hB.getD j
      have hcb := crc_bd (xs.take j)
      have hs : Hid (crc (xs.take (j + 1)) = rB (crc (xs.take j)) (xs.getD j 0) 8) := by rw [Hid, crc_take xs j hlt, rB_eight _ _ hcb hb]
      clear hcl hcell hB
      generalize crc (xs.take j) = c0 at *
      generalize xs.getD j 0 = x at *
      have HR : ∀ k, Hid (rB c0 x (k + 1) = if bits BinOp.and .u32 (bits BinOp.xor .u32 (rB c0 x k) (x / 2 ^ k)) 1 = 1 then bits BinOp.xor .u32 (rB c0 x k / 2) 2197175160 else rB c0 x k / 2) := fun _ => rfl
      have HR0 : Hid (rB c0 x 0 = c0) := rfl
      have HRB := rB_bd c0 x hcb
      have hxk : ∀ k : Nat, 0 ≤ x / 2 ^ k ∧ x / 2 ^ k ≤ 255 := fun k => by
        obtain ⟨n, rfl⟩ := Int.eq_ofNat_of_zero_le hb.1
        have e : ((n : Int) / 2 ^ k) = ((n / 2 ^ k : Nat) : Int) := by simp
        have := Nat.div_le_self n (2 ^ k)
        rw [e]
        generalize n / 2 ^ k = t at *
        omega
      generalize rB c0 x = R at *
      go_wp2
      go_loop [3, 6] (fun s i => ∃ k : Nat, k ≤ 8 ∧ i = .int .i64 k ∧ s = .int .u32 (R k)) (fun _ i => 8 - (intOf i).toNat)
      case atStart => exact ⟨0, Nat.zero_le _, rfl, by rw [HR0.out]⟩
      case round =>
        obtain ⟨k, hk, rfl, rfl⟩ := hrel
        have hRb := HRB k
        have hR1 := HR k
        have hx1 := hxk k
        clear HRB HR hxk
        by_cases hlt2 : k < 8
        · by_cases hbit : bits BinOp.and .u32 (bits BinOp.xor .u32 (R k) (x / 2 ^ k)) 1 = 1
          · have hb1 : (bits BinOp.and .u32 (bits BinOp.xor .u32 (R k) (x / 2 ^ k)) 1 == 1) = true := by rw [beq_iff_eq]; exact hbit
            have hR2 : Hid (R (k + 1) = bits BinOp.xor .u32 (R k / 2) 2197175160) := by rw [Hid, hR1.out, if_pos hbit]
            clear hbit hR1
            go_wp2
            go_round
            case rel => exact ⟨k + 1, by omega, by go_num, by rw [hR2.out]⟩
            case measure => simp [intOf]; omega
          · have hb1 : (bits BinOp.and .u32 (bits BinOp.xor .u32 (R k) (x / 2 ^ k)) 1 == 1) = false := by rw [beq_eq_false_iff_ne]; exact hbit
            have hR2 : Hid (R (k + 1) = R k / 2) := by rw [Hid, hR1.out, if_neg hbit]
            clear hbit hR1
            go_wp2
            go_round
            case rel => exact ⟨k + 1, by omega, by go_num, by rw [hR2.out]⟩
            case measure => simp [intOf]; omega
        · obtain rfl : k = 8 := by omega
          go_wp2
          go_round
          case rel => exact ⟨j + 1, by omega, by go_num, by rw [hs.out]⟩
          case measure => simp [intOf]; omega
    · obtain rfl : j = xs.length := by omega
      have hcb := crc_bd xs
      have HX : Hid (bits BinOp.xor .u32 (crc xs) 4294967295 = sumS xs) := xor_max _ hcb
      go_wp2
      go_ret
      exact ⟨ret_int HX.out, rfl⟩
def ofT (xs : List Int) : Nat → Int
  | 0 => 0
  | j + 1 => bits BinOp.or .u64 (ofT xs j) (IntKind.u64.wrap (xs.getD j 0 * 2 ^ (8 * j)))

theorem or_low64 (i : Nat) (x y : Int) (hx0 : 0 ≤ x) (hx1 : x < 2 ^ i) (hy0 : 0 ≤ y) (hy : y % 2 ^ i = 0) (hi : i ≤ 32) (hy1 : y < 4294967296) : bits BinOp.or .u64 x y = x + y := by
  have hp : (2 : Int) ^ i ≤ 2 ^ 32 := by exact_mod_cast Nat.pow_le_pow_right (n := 2) (by decide) hi
  exact bits_join_low .u64 64 (by decide) (fun n h0 h1 => by rw [IntKind.wrap_u64]; omega) i x y hx0 hx1 (by omega) hy0 hy (by omega)
theorem ofT_low (xs : List Int) (h : IsB xs) : ∀ j, j ≤ 4 → ofT xs j = lowT xs j := by
  have h0 := h.getD 0
  have h1 := h.getD 1
  have h2 := h.getD 2
  have h3 := h.getD 3
  have e1 : ofT xs 1 = xs.getD 0 0 := by
    show bits BinOp.or .u64 0 (IntKind.u64.wrap (xs.getD 0 0 * 2 ^ 0)) = _
    rw [IntKind.wrap_u64, or_low64 0 _ _ (by omega) (by omega) (by omega) (by omega) (by omega) (by omega)]
    omega
  have e2 : ofT xs 2 = xs.getD 0 0 + xs.getD 1 0 * 256 := by
    show bits BinOp.or .u64 (ofT xs 1) (IntKind.u64.wrap (xs.getD 1 0 * 2 ^ 8)) = _
    rw [e1, IntKind.wrap_u64, or_low64 8 _ _ (by omega) (by omega) (by omega) (by omega) (by omega) (by omega)]
    omega
  have e3 : ofT xs 3 = xs.getD 0 0 + xs.getD 1 0 * 256 + xs.getD 2 0 * 65536 := by
    show bits BinOp.or .u64 (ofT xs 2) (IntKind.u64.wrap (xs.getD 2 0 * 2 ^ 16)) = _
    rw [e2, IntKind.wrap_u64, or_low64 16 _ _ (by omega) (by omega) (by omega) (by omega) (by omega) (by omega)]
    omega
  have e4 : ofT xs 4 = xs.getD 0 0 + xs.getD 1 0 * 256 + xs.getD 2 0 * 65536 + xs.getD 3 0 * 16777216 := by
    show bits BinOp.or .u64 (ofT xs 3) (IntKind.u64.wrap (xs.getD 3 0 * 2 ^ 24)) = _
    rw [e3, IntKind.wrap_u64, or_low64 24 _ _ (by omega) (by omega) (by omega) (by omega) (by omega) (by omega)]
    omega
  intro j hj
  match j, hj with
  | 0, _ => rfl
  | 1, _ => rw [e1, lowT1 xs h]
  | 2, _ => rw [e2, lowT2 xs h]
  | 3, _ => rw [e3, lowT3 xs h]
  | 4, _ => rw [e4, lowT4 xs h]

set_option maxRecDepth 100000 in
set_option maxHeartbeats 1000000 in
theorem rof_any (v : Value) (xs : List Int) (w : World) (hv : Has w v xs) (hl : xs.length ≤ 4) (hB : IsB xs) :
    Calls Tryz.prog 120 #[v] w fun e w' => e = .returned (.int .u64 (lowS xs)) ∧ w' = w := by
  obtain ⟨p, c, rfl, hc, hnone, hcell⟩ := hv
  clear hnone
  have HT : ∀ j, Hid (ofT xs (j + 1) = bits BinOp.or .u64 (ofT xs j) (IntKind.u64.wrap (xs.getD j 0 * 2 ^ (8 * j)))) := fun _ => rfl
  have HL : Hid (lowS xs = ofT xs xs.length) := by rw [Hid, lowS, ofT_low xs hB _ hl]
  have H0 : Hid (ofT xs 0 = 0) := rfl
  generalize ofT xs = G at *
  go_enter Tryz.func120, Tryz.ntmps120
  go_wp2
  go_loop [3, 8] (fun s i => ∃ j : Nat, j ≤ xs.length ∧ i = .int .i64 j ∧ s = .int .u64 (G j)) (fun _ i => xs.length - (intOf i).toNat)
  case atStart => exact ⟨0, Nat.zero_le _, rfl, by rw [H0.out]⟩
  case round =>
    obtain ⟨j, hj, rfl, rfl⟩ := hrel
    have H1 := HT j
    clear HT
    by_cases hlt : j < xs.length
    · obtain ⟨b, o, rfl, _, hcl⟩ := hcell (by omega)
      have h1 := hcl j hlt
      have hbb := hB.getD j
      clear hcl hcell hB
      generalize xs.getD j 0 = x at *
      go_wp2
      go_round
      case rel => exact ⟨j + 1, by omega, by go_num, by rw [H1.out]⟩
      case measure => simp [intOf]; omega
    · obtain rfl : j = xs.length := by omega
      go_wp2
      go_ret
      rw [HL.out]
      exact ⟨rfl, rfl⟩

set_option maxRecDepth 100000 in
set_option maxHeartbeats 1000000 in
theorem rlow_any (u : Int) (n : Nat) (w : World) (hn : n ≤ 4) :
    Calls Tryz.prog 112 #[.int .u64 u, .int .i64 n] w fun e w' => ∃ v', e = .returned v' ∧ Owns w' w.heap.size 5 v' (lowB u n) ∧ Below w.heap.size w w' := by
  obtain ⟨i0, hi, hz0, hz1, hz2⟩ := info_parts info8c
  go_enter Tryz.func112, Tryz.ntmps112
  go_wp2
  go_loopw [5, 6] (fun v i wr => ∃ j : Nat, j ≤ n ∧ i = .int .i64 j ∧ Owns wr w.heap.size 5 v ([] ++ lowB u j) ∧ Below w.heap.size w wr) (fun _ i _ => n - (intOf i).toNat)
  case atStart => exact ⟨0, Nat.zero_le _, rfl, Owns.nil _ _ _, Below.refl _ _⟩
  case round =>
    obtain ⟨j, hj, rfl, hr, hbr⟩ := hrel
    by_cases hlt : j < n
    · go_wp2_with (at_builtin; refine ap_one _ rfl (.tmp 12) (.tmp 19) 25 rfl w.heap.size 5 i0 Tryz.underlying25 hi hz0 hz1 hz2 _ _ (u / 2 ^ (8 * j) % 256) rfl rfl (by exact hr) (by simp [lowB]; omega) hbr.size ?_; intro v2 w2 hown2 hbel2)
      go_roundw
      case rel => exact ⟨j + 1, by omega, by go_num, by rw [← lowB_step]; exact hown2, hbr.trans hbel2⟩
      case measure => simp [intOf]; omega
    · obtain rfl : j = n := by omega
      rw [List.nil_append] at hr
      go_wp2
      go_ret
      exact ⟨_, rfl, hr, hbr⟩

set_option maxRecDepth 100000 in
set_option maxHeartbeats 1000000 in
theorem runframe_any (v : Value) (xs : List Int) (w : World) (hv : Has w v xs) (hl : xs.length ≤ 1099511627776) (hB : IsB xs) :
    Calls Tryz.prog 55 #[v] w fun e w' => ∃ v', e = .returned (.tuple #[v', .int .i64 (unframeS xs).2.1, .int .i64 (unframeS xs).2.2]) ∧ Has w' v' (unframeS xs).1 ∧ Below w.heap.size w w' := by
  obtain ⟨i0, hi, hz0, hz1, hz2⟩ := info_parts info8c
  obtain ⟨p, c, rfl, hc, hnone, hcell⟩ := id hv
  clear hnone
  rcases Nat.eq_zero_or_pos xs.length with hn | hn
  · obtain rfl : xs = [] := List.eq_nil_of_length_eq_zero hn
    go_enter Tryz.func55, Tryz.ntmps55
    go_wp2
    go_ret3
    exact ⟨_, rfl, Has.nil _, Below.refl _ _⟩
  · obtain ⟨b, o, rfl, hbl, hcl⟩ := hcell hn
    have h1 := hcl 0 hn
    rw [Nat.add_zero] at h1
    have hne : ¬ xs.length = 0 := by omega
    have hnb : ((xs.length : Int) == 0) = false := by rw [beq_eq_false_iff_ne]; omega
    clear hcell
    by_cases hm : xs.getD 0 0 = 197
    · rw [hm] at h1
      by_cases h4 : xs.length < 4
      · have HU : Hid (unframeS xs = ([], 0, 10)) := by rw [Hid, unframeS, if_neg hne, if_neg (fun h => h hm), if_pos h4]
        go_enter Tryz.func55, Tryz.ntmps55
        go_wp2
        go_ret3
        rw [HU.out]
        exact ⟨_, rfl, Has.nil _, Below.refl _ _⟩
      · have hcut3 := hv.cutAt 1 3 (by omega)
        have hB3 := IsB.cutB hB 1 3
        have hbd := lowS_bd ((xs.drop 1).take 3)
        have HC : Hid (cntS xs = (lowS ((xs.drop 1).take 3)).toNat) := rfl
        have h3l : ((xs.drop 1).take 3).length ≤ 4 := by rw [List.length_take]; omega
        generalize (xs.drop 1).take 3 = ys at *
        by_cases hbig : 1048576 < lowS ys
        · have HU : Hid (unframeS xs = ([], 0, 6)) := by rw [Hid, unframeS, if_neg hne, if_neg (fun h => h hm), if_neg h4, if_pos (by rw [HC.out]; omega)]
          go_enter Tryz.func55, Tryz.ntmps55
          go_wp2_with (go_at_call 120; refine same_mono (rof_any _ ys _ hcut3 h3l hB3) ?_)
          go_ret3
          rw [HU.out]
          exact ⟨_, rfl, Has.nil _, Below.refl _ _⟩
        · obtain ⟨n, hn'⟩ : ∃ n : Nat, lowS ys = n := ⟨(lowS ys).toNat, by omega⟩
          have HN : Hid (lowS ys = (n : Int)) := hn'
          have hcn : cntS xs = n := by rw [HC.out, hn']; rfl
          rw [hn'] at hbd hbig
          clear hn' HC
          by_cases hsh : xs.length < n + 8
          · have HU : Hid (unframeS xs = ([], 0, 10)) := by rw [Hid, unframeS, if_neg hne, if_neg (fun h => h hm), if_neg h4, hcn, if_neg (by omega), if_pos hsh]
            clear hcn
            go_enter Tryz.func55, Tryz.ntmps55
            go_wp2_with (go_at_call 120; refine same_mono (rof_any _ ys _ hcut3 h3l hB3) ?_; rw [HN.out])
            go_ret3
            rw [HU.out]
            exact ⟨_, rfl, Has.nil _, Below.refl _ _⟩
          · have hs1 := hv.takeN (4 + n) (by omega)
            have hs2 := hv.cutAt (4 + n) 4 (by omega)
            have hB1 := IsB.takeB hB (4 + n)
            have hB2 := IsB.cutB hB (4 + n) 4
            have hl2 : ((xs.drop (4 + n)).take 4).length ≤ 4 := by rw [List.length_take]; omega
            have hl1 : (xs.take (4 + n)).length ≤ 1099511627776 := by rw [List.length_take]; omega
            have HUeq : Hid (unframeS xs = if sumS (xs.take (4 + n)) ≠ lowS ((xs.drop (4 + n)).take 4) then ([], 0, 8) else ((xs.drop 4).take n, (n : Int) + 8, 0)) := by
              rw [Hid, unframeS, if_neg hne, if_neg (fun h => h hm), if_neg h4, hcn, if_neg (by omega), if_neg hsh]
            clear hcn
            generalize xs.take (4 + n) = y1 at *
            generalize (xs.drop (4 + n)).take 4 = y2 at *
            by_cases heq : sumS y1 = lowS y2
            · have HU : Hid (unframeS xs = ((xs.drop 4).take n, (n : Int) + 8, 0)) := by rw [Hid, HUeq.out, if_neg (fun h => h heq)]
              have hneq : (sumS y1 != lowS y2) = false := by rw [heq]; simp
              have hs4 := hv.cutAt 4 n (by omega)
              have hl4 : ((xs.drop 4).take n).length ≤ 1048576 := by rw [List.length_take]; omega
              clear HUeq
              go_enter Tryz.func55, Tryz.ntmps55
              go_wp2_with (go_at_call 120; refine same_mono (rof_any _ ys _ hcut3 h3l hB3) ?_; rw [HN.out])
              have hsb := sumS_bd y1
              have q1 : (0 : Int) ≤ 4 + (n : Int) := by omega
              have q2 : (4 : Int) + (n : Int) ≤ (c : Int) := by omega
              have q3 : (4 : Int) + (n : Int) ≤ 8 + (n : Int) := by omega
              have q4 : (8 : Int) + (n : Int) ≤ (c : Int) := by omega
              have q5 : ((4 : Int) + (n : Int)).toNat = 4 + n := by omega
              have q6 : ((8 : Int) + (n : Int)).toNat = 8 + n := by omega
              have q7 : 8 + n - (4 + n) = 4 := by omega
              have q8 : ¬ c = 4 + n := by omega
              have q9 : (0 : Int) ≤ 8 + (n : Int) := by omega
              go_quiet (first | (go_at_call 49; exact Calls.quiet_of_same (rsum_any _ y1 _ (by first | exact hs1 | exact hs1.below (below_drewN (Below.refl _ _) _) (Nat.le_refl _)) hl1 hB1)) | (go_at_call 120; exact Calls.quiet_of_same (rof_any _ y2 _ (by first | exact hs2 | exact hs2.below (below_drewN (Below.refl _ _) _) (Nat.le_refl _)) hl2 hB2)))
              rw [heq]
              clear heq hneq hs1 hs2 hB1 hB2 hl1 hl2 hcut3 hB3 h3l hcl
              go_wp2_with (at_builtin; refine ap_slice _ rfl (.tmp 44) (.tmp 48) 25 rfl w.heap.size 5 i0 Tryz.underlying25 hi hz0 hz1 hz2 _ [] ((xs.drop 4).take n) rfl (by exact (hs4.below (below_drewN (Below.refl _ _) _) (Nat.le_refl _)).below ((Below.refl _ _).alloc (Nat.le_refl _) _) (Nat.le_refl _)) (by exact Owns.empty _ _ _ (Nat.le_refl _)) (by simp) (by omega) (by simp) ?_; intro v5 w5 ho5 hb5)
              rw [List.nil_append] at ho5
              have hb5w : Below w.heap.size w w5 := ((below_drewN (Below.refl w.heap.size w) nq).alloc (Nat.le_refl _) _).trans hb5
              clear hb5
              go_ret3
              rw [HU.out]
              exact ⟨_, rfl, ho5.has, hb5w⟩
            · have HU : Hid (unframeS xs = ([], 0, 8)) := by rw [Hid, HUeq.out, if_pos heq]
              have hneq : (sumS y1 != lowS y2) = true := by simpa using heq
              clear HUeq
              go_enter Tryz.func55, Tryz.ntmps55
              go_wp2_with (go_at_call 120; refine same_mono (rof_any _ ys _ hcut3 h3l hB3) ?_; rw [HN.out])
              have hsb := sumS_bd y1
              have q1 : (0 : Int) ≤ 4 + (n : Int) := by omega
              have q2 : (4 : Int) + (n : Int) ≤ (c : Int) := by omega
              have q3 : (4 : Int) + (n : Int) ≤ 8 + (n : Int) := by omega
              have q4 : (8 : Int) + (n : Int) ≤ (c : Int) := by omega
              have q5 : ((4 : Int) + (n : Int)).toNat = 4 + n := by omega
              have q6 : ((8 : Int) + (n : Int)).toNat = 8 + n := by omega
              have q7 : 8 + n - (4 + n) = 4 := by omega
              have q8 : ¬ c = 4 + n := by omega
              have q9 : (0 : Int) ≤ 8 + (n : Int) := by omega
              go_quiet (first | (go_at_call 49; exact Calls.quiet_of_same (rsum_any _ y1 _ (by first | exact hs1 | exact hs1.below (below_drewN (Below.refl _ _) _) (Nat.le_refl _)) hl1 hB1)) | (go_at_call 120; exact Calls.quiet_of_same (rof_any _ y2 _ (by first | exact hs2 | exact hs2.below (below_drewN (Below.refl _ _) _) (Nat.le_refl _)) hl2 hB2)))
              go_wp2
              go_ret3
              rw [HU.out]
              exact ⟨_, rfl, Has.nil _, below_drewN (Below.refl _ _) _⟩
    · have HU : Hid (unframeS xs = ([], 0, 8)) := by rw [Hid, unframeS, if_neg hne, if_pos hm]
      have hmb : (xs.getD 0 0 != 197) = true := by simpa using hm
      generalize xs.getD 0 0 = x0 at *
      go_enter Tryz.func55, Tryz.ntmps55
      go_wp2
      go_ret3
      rw [HU.out]
      exact ⟨_, rfl, Has.nil _, Below.refl _ _⟩
end Go.Proofs.YthlelcmifolnfaaGreatDoor
