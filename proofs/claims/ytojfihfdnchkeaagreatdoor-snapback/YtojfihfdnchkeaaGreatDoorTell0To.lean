import Derived.Test.YtojfihfdnchkeaaGreatDoorWaXTo
import Derived.Test.YtojfihfdnchkeaaGreatDoorFrm0
import Derived.BigQuiet
import Derived.WalkSmall
import Derived.Deep.RegionLaw
namespace Go.Proofs.YtojfihfdnchkeaaGreatDoor
open Go.RowKit
set_option maxRecDepth 100000 in
set_option maxHeartbeats 1000000 in
theorem low_any (v : Value) (xs : List Int) (w : World) (hv : Has w v xs) (hl : xs.length ≤ 4) (hB : IsB xs) :
    Calls Tryz.prog 160 #[v] w fun e w' => e = .returned (.int .u32 (lowS xs)) ∧ w' = w := by
  obtain ⟨p, c, rfl, hc, hnone, hcell⟩ := hv
  clear hnone
  have HT : ∀ j, Hid (lowT xs (j + 1) = bits BinOp.or .u32 (lowT xs j) (xs.getD j 0 * 2 ^ (8 * j) % 4294967296)) := fun _ => rfl
  have HB := lowT_bd xs
  have HL : Hid (lowS xs = lowT xs xs.length) := rfl
  have H0 : Hid (lowT xs 0 = 0) := rfl
  generalize lowT xs = G at *
  go_enter Tryz.func160, Tryz.ntmps160
  go_wp2
  go_loop [3, 8] (fun s i => ∃ j : Nat, j ≤ xs.length ∧ i = .int .i64 j ∧ s = .int .u32 (G j)) (fun _ i => xs.length - (intOf i).toNat)
  case atStart => exact ⟨0, Nat.zero_le _, rfl, by rw [H0.out]⟩
  case round =>
    obtain ⟨j, hj, rfl, rfl⟩ := hrel
    have hb := HB j
    have H1 := HT j
    clear HB HT
    by_cases hlt : j < xs.length
    · obtain ⟨b, o, rfl, _, hcl⟩ := hcell (by omega)
      have h1 := hcl j hlt
      have hbb := hB.getD j
      clear hcl hcell hB
      generalize xs.getD j 0 = x at *
      go_wp2
      go_round
      case rel => exact ⟨j + 1, by omega, by go_num, by rw [H1.out]⟩
      case measure => simp [intOf]; omega
    · obtain rfl : j = xs.length := by omega
      go_wp2
      go_ret
      rw [HL.out]
      exact ⟨rfl, rfl⟩

theorem lowS_bd (xs : List Int) : 0 ≤ lowS xs ∧ lowS xs ≤ 4294967295 := lowT_bd _ _

set_option maxRecDepth 100000 in
set_option maxHeartbeats 1000000 in
theorem unframe_any (v : Value) (xs : List Int) (w : World) (hT : Tab w) (hv : Has w v xs) (hl : xs.length ≤ 1099511627776) (hB : IsB xs) :
    Calls Tryz.prog 79 #[v] w fun e w' => ∃ v', e = .returned (.tuple #[v', .int .i64 (unframeS xs).2.1, .int .i64 (unframeS xs).2.2]) ∧ Has w' v' (unframeS xs).1 ∧ Below w.heap.size w w' := by
  obtain ⟨i0, hi, hz0, hz1, hz2⟩ := info_parts info8c
  obtain ⟨p, c, rfl, hc, hnone, hcell⟩ := id hv
  clear hnone
  rcases Nat.eq_zero_or_pos xs.length with hn | hn
  · obtain rfl : xs = [] := List.eq_nil_of_length_eq_zero hn
    go_enter Tryz.func79, Tryz.ntmps79
    go_wp2
    go_ret3
    exact ⟨_, rfl, Has.nil _, Below.refl _ _⟩
  · obtain ⟨b, o, rfl, hbl, hcl⟩ := hcell hn
    have h1 := hcl 0 hn
    rw [Nat.add_zero] at h1
    have hne : ¬ xs.length = 0 := by omega
    have hnb : ((xs.length : Int) == 0) = false := by rw [beq_eq_false_iff_ne]; omega
    clear hcell
    by_cases hm : xs.getD 0 0 = 197
    · rw [hm] at h1
      by_cases h4 : xs.length < 4
      · have HU : Hid (unframeS xs = ([], 0, 10)) := by rw [Hid, unframeS, if_neg hne, if_neg (fun h => h hm), if_pos h4]
        go_enter Tryz.func79, Tryz.ntmps79
        go_wp2
        go_ret3
        rw [HU.out]
        exact ⟨_, rfl, Has.nil _, Below.refl _ _⟩
      · have hcut3 := hv.cutAt 1 3 (by omega)
        have hB3 := IsB.cutB hB 1 3
        have hbd := lowS_bd ((xs.drop 1).take 3)
        have HC : Hid (cntS xs = (lowS ((xs.drop 1).take 3)).toNat) := rfl
        have h3l : ((xs.drop 1).take 3).length ≤ 4 := by rw [List.length_take]; omega
        generalize (xs.drop 1).take 3 = ys at *
        by_cases hbig : 1048576 < lowS ys
        · have HU : Hid (unframeS xs = ([], 0, 6)) := by rw [Hid, unframeS, if_neg hne, if_neg (fun h => h hm), if_neg h4, if_pos (by rw [HC.out]; omega)]
          go_enter Tryz.func79, Tryz.ntmps79
          go_wp2_with (go_at_call 160; refine same_mono (low_any _ ys _ hcut3 h3l hB3) ?_)
          go_ret3
          rw [HU.out]
          exact ⟨_, rfl, Has.nil _, Below.refl _ _⟩
        · obtain ⟨n, hn'⟩ : ∃ n : Nat, lowS ys = n := ⟨(lowS ys).toNat, by omega⟩
          have HN : Hid (lowS ys = (n : Int)) := hn'
          have hcn : cntS xs = n := by rw [HC.out, hn']; rfl
          rw [hn'] at hbd hbig
          clear hn' HC
          by_cases hsh : xs.length < n + 8
          · have HU : Hid (unframeS xs = ([], 0, 10)) := by rw [Hid, unframeS, if_neg hne, if_neg (fun h => h hm), if_neg h4, hcn, if_neg (by omega), if_pos hsh]
            clear hcn
            go_enter Tryz.func79, Tryz.ntmps79
            go_wp2_with (go_at_call 160; refine same_mono (low_any _ ys _ hcut3 h3l hB3) ?_; rw [HN.out])
            go_ret3
            rw [HU.out]
            exact ⟨_, rfl, Has.nil _, Below.refl _ _⟩
          · have hs1 := hv.takeN (4 + n) (by omega)
            have hs2 := hv.cutAt (4 + n) 4 (by omega)
            have hB1 := IsB.takeB hB (4 + n)
            have hB2 := IsB.cutB hB (4 + n) 4
            have hl2 : ((xs.drop (4 + n)).take 4).length ≤ 4 := by rw [List.length_take]; omega
            have hl1 : (xs.take (4 + n)).length ≤ 1099511627776 := by rw [List.length_take]; omega
            have HUeq : Hid (unframeS xs = if sumS (xs.take (4 + n)) ≠ lowS ((xs.drop (4 + n)).take 4) then ([], 0, 8) else ((xs.drop 4).take n, (n : Int) + 8, 0)) := by
              rw [Hid, unframeS, if_neg hne, if_neg (fun h => h hm), if_neg h4, hcn, if_neg (by omega), if_neg hsh]
            clear hcn
            generalize xs.take (4 + n) = y1 at *
            generalize (xs.drop (4 + n)).take 4 = y2 at *
            by_cases heq : sumS y1 = lowS y2
            · have HU : Hid (unframeS xs = ((xs.drop 4).take n, (n : Int) + 8, 0)) := by rw [Hid, HUeq.out, if_neg (fun h => h heq)]
              have hneq : (sumS y1 != lowS y2) = false := by rw [heq]; simp
              have hs4 := hv.cutAt 4 n (by omega)
              have hl4 : ((xs.drop 4).take n).length ≤ 1048576 := by rw [List.length_take]; omega
              clear HUeq
              go_enter Tryz.func79, Tryz.ntmps79
              go_wp2_with (go_at_call 160; refine same_mono (low_any _ ys _ hcut3 h3l hB3) ?_; rw [HN.out])
              go_quiet (first | (go_at_call 161; exact Calls.quiet_of_same (sum_cod _ y1 _ (by first | exact hT | exact hT.below (below_drewN (Below.refl _ _) _) (Nat.le_refl _)) (by first | exact hs1 | exact hs1.below (below_drewN (Below.refl _ _) _) (Nat.le_refl _)) hl1 hB1)) | (go_at_call 160; exact Calls.quiet_of_same (low_any _ y2 _ (by first | exact hs2 | exact hs2.below (below_drewN (Below.refl _ _) _) (Nat.le_refl _)) hl2 hB2)))
              rw [heq]
              clear heq hneq hs1 hs2 hB1 hB2 hl1 hl2 hcut3 hB3 h3l hcl
              obtain ⟨M, hM, hmk⟩ : ∃ M : Array Value, M.size = n * 1 ∧ ∀ W : World, (Instr.makeSlice 38 (.int .i64 0) (.int .u32 (n : Int))).run Tryz.prog W = .ok (.slice (some ⟨W.heap.size, 0, none⟩) 0 n) (W.alloc (.cells M 5)) :=
                ⟨madeCells (Value.int .u8 0).cells (n * i0.size), by rw [hz1]; exact size_madeCells _ _, fun W => run_make W 38 5 i0 (.int .u8 0) Tryz.underlying38 hi hz0 .i64 .u32 0 n (by omega) (by omega) (by rw [hz2]; omega) (by omega)⟩
              have q1 : (0 : Int) ≤ 4 + (n : Int) := by omega
              have q2 : (4 : Int) + (n : Int) ≤ (c : Int) := by omega
              have q3 : (4 : Int) ≤ max (4 + (n : Int)) 0 := by omega
              have q4 : ¬ c = 4 := by omega
              have q5 : ((4 : Int) + (n : Int)).toNat - 4 = n := by omega
              go_wp2_with fail
              go_region_law (refine step_slice _ rfl (.tmp 46) (.tmp 49) 38 rfl w.heap.size 5 i0 Tryz.underlying38 hi hz0 hz1 hz2 _ [] ((xs.drop 4).take n) rfl (by exact (hs4.below (below_drewN (Below.refl _ _) _) (Nat.le_refl _)).below ((Below.refl _ _).alloc (Nat.le_refl _) _) (Nat.le_refl _)) (by exact World.ownsRow_made _ M n (Nat.le_refl _) (by unfold maxLen; omega) hM) (by simp) (by omega) (by simp) ?_; intro v5 w5 ho5 hb5)
              rw [List.nil_append] at ho5
              have hb5w : Below w.heap.size w w5 := ((below_drewN (Below.refl w.heap.size w) (nq + 1)).alloc (Nat.le_refl _) _).trans hb5
              clear hb5
              go_wp2
              go_ret3
              rw [HU.out]
              exact ⟨_, congrArg (fun z => Ending.returned (Value.tuple #[v5, .int .i64 z, .int .i64 0])) (show (4 : Int) + (n : Int) + 4 = (n : Int) + 8 by omega), ho5.has, hb5w⟩
            · have HU : Hid (unframeS xs = ([], 0, 8)) := by rw [Hid, HUeq.out, if_pos heq]
              have hneq : (sumS y1 != lowS y2) = true := by simpa using heq
              clear HUeq
              go_enter Tryz.func79, Tryz.ntmps79
              go_wp2_with (go_at_call 160; refine same_mono (low_any _ ys _ hcut3 h3l hB3) ?_; rw [HN.out])
              go_quiet (first | (go_at_call 161; exact Calls.quiet_of_same (sum_cod _ y1 _ (by first | exact hT | exact hT.below (below_drewN (Below.refl _ _) _) (Nat.le_refl _) | (trace_state; fail)) (by first | exact hs1 | exact hs1.below (below_drewN (Below.refl _ _) _) (Nat.le_refl _)) hl1 hB1)) | (go_at_call 160; exact Calls.quiet_of_same (low_any _ y2 _ (by first | exact hs2 | exact hs2.below (below_drewN (Below.refl _ _) _) (Nat.le_refl _)) hl2 hB2)))
              go_wp2
              go_ret3
              rw [HU.out]
              exact ⟨_, rfl, Has.nil _, below_drewN (Below.refl _ _) _⟩
    · have HU : Hid (unframeS xs = ([], 0, 8)) := by rw [Hid, unframeS, if_neg hne, if_pos hm]
      have hmb : (xs.getD 0 0 != 197) = true := by simpa using hm
      generalize xs.getD 0 0 = x0 at *
      go_enter Tryz.func79, Tryz.ntmps79
      go_wp2
      go_ret3
      rw [HU.out]
      exact ⟨_, rfl, Has.nil _, Below.refl _ _⟩
theorem frameB_isB {xs : List Int} (h : IsB xs) : IsB (frameB xs) := IsB.append (frameH_isB h) (lowB_isB _ _)

theorem low3 (a b c : Int) (h : IsB [a, b, c]) : lowS [a, b, c] = a + b * 256 + c * 65536 := by
  rw [show lowS [a, b, c] = lowT [a, b, c] 3 from rfl, lowT3 _ h]; rfl
theorem low4 (a b c d : Int) (h : IsB [a, b, c, d]) : lowS [a, b, c, d] = a + b * 256 + c * 65536 + d * 16777216 := by
  rw [show lowS [a, b, c, d] = lowT [a, b, c, d] 4 from rfl, lowT4 _ h]; rfl
theorem lowS_lowB3 (u : Int) (h0 : 0 ≤ u) (h1 : u < 16777216) : lowS (lowB u 3) = u := by
  rw [show lowB u 3 = [u / 2 ^ 0 % 256, u / 2 ^ 8 % 256, u / 2 ^ 16 % 256] from rfl, low3 _ _ _ (lowB_isB u 3)]
  show u / 1 % 256 + u / 256 % 256 * 256 + u / 65536 % 256 * 65536 = u
  omega
theorem lowS_lowB4 (u : Int) (h0 : 0 ≤ u) (h1 : u < 4294967296) : lowS (lowB u 4) = u := by
  rw [show lowB u 4 = [u / 2 ^ 0 % 256, u / 2 ^ 8 % 256, u / 2 ^ 16 % 256, u / 2 ^ 24 % 256] from rfl, low4 _ _ _ _ (lowB_isB u 4)]
  show u / 1 % 256 + u / 256 % 256 * 256 + u / 65536 % 256 * 65536 + u / 16777216 % 256 * 16777216 = u
  omega

theorem cnt_frame (xs r : List Int) (h : xs.length ≤ 1048576) : cntS (frameB xs ++ r) = xs.length := by
  unfold cntS
  have e : ((frameB xs ++ r).drop 1).take 3 = lowB xs.length 3 := by simp [frameB, frameH, lowB, List.range_succ]
  rw [e, lowS_lowB3 _ (by omega) (by omega)]
  simp
theorem unframe_frame (xs r : List Int) (h : xs.length ≤ 1048576) : unframeS (frameB xs ++ r) = (xs, (xs.length : Int) + 8, 0) := by
  have hlen : (frameB xs ++ r).length = xs.length + 8 + r.length := by rw [List.length_append, frameB_length]
  have h0 : (frameB xs ++ r).getD 0 0 = 197 := by simp [frameB, frameH]
  have hc := cnt_frame xs r h
  have hH : (frameB xs ++ r).take (4 + xs.length) = frameH xs := by
    unfold frameB
    rw [List.append_assoc]
    exact List.take_left' (by rw [frameH_length]; omega)
  have hS : ((frameB xs ++ r).drop (4 + xs.length)).take 4 = lowB (sumS (frameH xs)) 4 := by
    unfold frameB
    rw [List.append_assoc, List.drop_left' (by rw [frameH_length]; omega)]
    exact List.take_left' (lowB_length _ _)
  have hX : ((frameB xs ++ r).drop 4).take xs.length = xs := by
    simp [frameB, frameH, lowB, List.range_succ]
  have hb := sumS_bd (frameH xs)
  unfold unframeS
  rw [if_neg (by omega), if_neg (fun h => h h0), if_neg (by omega), hc, if_neg (by omega), if_neg (by omega), hH, hS, lowS_lowB4 _ hb.1 (by omega), if_neg (fun h => h rfl), hX]

theorem set_isB {xs : List Int} (h : IsB xs) (j : Nat) (m : Int) (hm : 0 ≤ m ∧ m ≤ 255) : IsB (xs.set j m) := fun x hx => by
  rcases List.mem_or_eq_of_mem_set hx with h1 | h1
  · exact h x h1
  · rw [h1]; exact hm

theorem xor_u32 (a b : Nat) (ha : a < 4294967296) (hb : b < 4294967296) : bits .xor .u32 (a : Int) (b : Int) = ((a ^^^ b : Nat) : Int) := by
  have hx : a ^^^ b < 2 ^ 32 := Nat.xor_lt_two_pow (by omega) (by omega)
  have h1 : (BitVec.ofInt 32 (a : Int)).toNat = a := by
    rw [BitVec.ofInt_natCast, BitVec.toNat_ofNat]; exact Nat.mod_eq_of_lt (by omega)
  have h2 : (BitVec.ofInt 32 (b : Int)).toNat = b := by
    rw [BitVec.ofInt_natCast, BitVec.toNat_ofNat]; exact Nat.mod_eq_of_lt (by omega)
  show IntKind.u32.wrap ((BitVec.ofInt 32 (a : Int) ^^^ BitVec.ofInt 32 (b : Int)).toNat : Int) = _
  rw [BitVec.toNat_xor, h1, h2, IntKind.wrap_u32]
  omega

theorem xor_cancel (a b c : Nat) (h : a ^^^ c = b ^^^ c) : a = b := by
  have := congrArg (· ^^^ c) h
  simpa [Nat.xor_assoc] using this

theorem xor32_inj (a b c : Int) (ha : 0 ≤ a ∧ a ≤ 4294967295) (hb : 0 ≤ b ∧ b ≤ 4294967295) (hc : 0 ≤ c ∧ c ≤ 4294967295) (h : bits .xor .u32 a c = bits .xor .u32 b c) : a = b := by
  obtain ⟨x, rfl⟩ := Int.eq_ofNat_of_zero_le ha.1
  obtain ⟨y, rfl⟩ := Int.eq_ofNat_of_zero_le hb.1
  obtain ⟨z, rfl⟩ := Int.eq_ofNat_of_zero_le hc.1
  rw [xor_u32 x z (by omega) (by omega), xor_u32 y z (by omega) (by omega)] at h
  rw [xor_cancel x y z (by exact_mod_cast h)]
theorem xor32_comm (a b : Int) (ha : 0 ≤ a ∧ a ≤ 4294967295) (hb : 0 ≤ b ∧ b ≤ 4294967295) : bits .xor .u32 a b = bits .xor .u32 b a := by
  obtain ⟨x, rfl⟩ := Int.eq_ofNat_of_zero_le ha.1
  obtain ⟨y, rfl⟩ := Int.eq_ofNat_of_zero_le hb.1
  rw [xor_u32 x y (by omega) (by omega), xor_u32 y x (by omega) (by omega), Nat.xor_comm]

theorem nib_top : ∀ i : Fin 16, (nib i.val).toNat / 268435456 = i.val ∧ 0 ≤ nib i.val ∧ nib i.val ≤ 4294967295 := by decide +kernel

theorem and15_eq (c : Int) (h0 : 0 ≤ c) (h1 : c ≤ 4294967295) : bits BinOp.and .u32 c 15 = c % 16 :=
  bits_mask .u32 32 (by decide) (fun n h0 h1 => by rw [IntKind.wrap_u32]; omega) 4 (by decide) c h0 (by omega)

theorem xor_top (a t : Nat) (ha : a < 268435456) : (a ^^^ t) / 268435456 = t / 268435456 := by
  have e : ∀ x : Nat, x / 268435456 = x >>> 28 := fun x => by rw [Nat.shiftRight_eq_div_pow]
  rw [e, e, Nat.shiftRight_xor_distrib, ← e, Nat.div_eq_of_lt ha, Nat.zero_xor]

theorem st1_nat (c : Nat) (h : c < 4294967296) : st1 c = ((c / 16 ^^^ (nib ((c % 16 : Nat) : Int)).toNat : Nat) : Int) := by
  unfold st1
  have hn := nib_top ⟨c % 16, by omega⟩
  simp only at hn
  rw [and15_eq c (by omega) (by omega), show ((c : Int) / 16) = ((c / 16 : Nat) : Int) by omega, show ((c : Int) % 16) = ((c % 16 : Nat) : Int) by omega]
  obtain ⟨m, hm⟩ := Int.eq_ofNat_of_zero_le hn.2.1
  rw [hm, xor_u32 _ _ (by omega) (by omega), Int.toNat_natCast]

theorem st1_inj (c d : Int) (hc : 0 ≤ c ∧ c ≤ 4294967295) (hd : 0 ≤ d ∧ d ≤ 4294967295) (h : st1 c = st1 d) : c = d := by
  obtain ⟨x, rfl⟩ := Int.eq_ofNat_of_zero_le hc.1
  obtain ⟨y, rfl⟩ := Int.eq_ofNat_of_zero_le hd.1
  rw [st1_nat x (by omega), st1_nat y (by omega)] at h
  have h' : x / 16 ^^^ (nib ((x % 16 : Nat) : Int)).toNat = y / 16 ^^^ (nib ((y % 16 : Nat) : Int)).toNat := by exact_mod_cast h
  have hx := nib_top ⟨x % 16, by omega⟩
  have hy := nib_top ⟨y % 16, by omega⟩
  simp only at hx hy
  have t : (x / 16 ^^^ (nib ((x % 16 : Nat) : Int)).toNat) / 268435456 = (y / 16 ^^^ (nib ((y % 16 : Nat) : Int)).toNat) / 268435456 := congrArg (· / 268435456) h'
  rw [xor_top _ _ (by omega), xor_top _ _ (by omega), hx.1, hy.1] at t
  rw [t] at h'
  have := xor_cancel _ _ _ h'
  have e : x = y := by omega
  rw [e]

theorem stB_inj_c (c d x : Int) (hc : 0 ≤ c ∧ c ≤ 4294967295) (hd : 0 ≤ d ∧ d ≤ 4294967295) (hx : 0 ≤ x ∧ x ≤ 255) (h : stB c x = stB d x) : c = d :=
  xor32_inj c d x hc hd ⟨hx.1, by omega⟩ (st1_inj _ _ (xor_bd _ _) (xor_bd _ _) (st1_inj _ _ (st1_bd _) (st1_bd _) h))
theorem stB_inj_x (c x y : Int) (hc : 0 ≤ c ∧ c ≤ 4294967295) (hx : 0 ≤ x ∧ x ≤ 255) (hy : 0 ≤ y ∧ y ≤ 255) (h : stB c x = stB c y) : x = y := by
  have h1 := st1_inj _ _ (xor_bd _ _) (xor_bd _ _) (st1_inj _ _ (st1_bd _) (st1_bd _) h)
  rw [xor32_comm c x hc ⟨hx.1, by omega⟩, xor32_comm c y hc ⟨hy.1, by omega⟩] at h1
  exact xor32_inj x y c ⟨hx.1, by omega⟩ ⟨hy.1, by omega⟩ hc h1

theorem fold_inj : ∀ (l : List Int) (c d : Int), IsB l → (0 ≤ c ∧ c ≤ 4294967295) → (0 ≤ d ∧ d ≤ 4294967295) → l.foldl stB c = l.foldl stB d → c = d
  | [], _, _, _, _, _, h => h
  | x :: l, c, d, hl, hc, hd, h =>
    stB_inj_c c d x hc hd (hl x List.mem_cons_self) (fold_inj l (stB c x) (stB d x) (fun y hy => hl y (List.mem_cons_of_mem _ hy)) (stB_bd _ _) (stB_bd _ _) h)

theorem crc_sees (l : List Int) (r : List Int) (x y : Int) (hr : IsB r) (hx : 0 ≤ x ∧ x ≤ 255) (hy : 0 ≤ y ∧ y ≤ 255) (h : sumS (l ++ x :: r) = sumS (l ++ y :: r)) : x = y := by
  have h1 : crc (l ++ x :: r) = crc (l ++ y :: r) := by
    unfold sumS at h
    rw [xor32_comm _ _ (by decide) (crc_bd _), xor32_comm _ (crc (l ++ y :: r)) (by decide) (crc_bd _)] at h
    exact xor32_inj _ _ _ (crc_bd _) (crc_bd _) (by decide) h
  unfold crc at h1
  rw [List.foldl_append, List.foldl_append, List.foldl_cons, List.foldl_cons] at h1
  exact stB_inj_x _ x y (crc_bd l) hx hy (fold_inj r _ _ hr (stB_bd _ _) (stB_bd _ _) h1)

theorem sum_set (xs : List Int) (j : Nat) (y : Int) (hj : j < xs.length) (hB : IsB xs) (hy : 0 ≤ y ∧ y ≤ 255) (hne : y ≠ xs.getD j 0) : sumS (xs.set j y) ≠ sumS xs := by
  intro h
  have e1 : xs = xs.take j ++ xs[j] :: xs.drop (j + 1) := by simp
  have e2 : xs.set j y = xs.take j ++ y :: xs.drop (j + 1) := by rw [List.set_eq_take_append_cons_drop, if_pos hj]
  rw [e2] at h
  rw [show sumS xs = sumS (xs.take j ++ xs[j] :: xs.drop (j + 1)) from by rw [← e1]] at h
  have hg : xs.getD j 0 = xs[j] := by simp [List.getElem?_eq_getElem hj]
  have := crc_sees (xs.take j) (xs.drop (j + 1)) y xs[j] (fun z hz => hB z (List.mem_of_mem_drop hz)) hy (hB _ (List.getElem_mem hj)) h
  exact hne (by rw [hg]; exact this)


theorem low4_inj (a b : List Int) (ha : a.length = 4) (hb : b.length = 4) (hBa : IsB a) (hBb : IsB b) (h : lowS a = lowS b) : a = b := by
  obtain ⟨a0, a1, a2, a3, rfl⟩ : ∃ a0 a1 a2 a3, a = [a0, a1, a2, a3] := by
    match a, ha with
    | [a0, a1, a2, a3], _ => exact ⟨a0, a1, a2, a3, rfl⟩
  obtain ⟨b0, b1, b2, b3, rfl⟩ : ∃ b0 b1 b2 b3, b = [b0, b1, b2, b3] := by
    match b, hb with
    | [b0, b1, b2, b3], _ => exact ⟨b0, b1, b2, b3, rfl⟩
  rw [low4 _ _ _ _ hBa, low4 _ _ _ _ hBb] at h
  have h0 := hBa a0 (by simp)
  have h1 := hBa a1 (by simp)
  have h2 := hBa a2 (by simp)
  have h3 := hBa a3 (by simp)
  have g0 := hBb b0 (by simp)
  have g1 := hBb b1 (by simp)
  have g2 := hBb b2 (by simp)
  have g3 := hBb b3 (by simp)
  obtain ⟨rfl, rfl, rfl, rfl⟩ : a0 = b0 ∧ a1 = b1 ∧ a2 = b2 ∧ a3 = b3 := by omega
  rfl

theorem unframe_turned (xs : List Int) (h : xs.length ≤ 1048576) (hB : IsB xs) (j : Nat) (y : Int) (hj4 : 4 ≤ j) (hj : j < xs.length + 8) (hy : 0 ≤ y ∧ y ≤ 255) (hne : y ≠ (frameB xs).getD j 0) : unframeS ((frameB xs).set j y) = ([], 0, 8) := by
  have hFB := frameB_isB hB
  have hlen : ((frameB xs).set j y).length = xs.length + 8 := by rw [List.length_set, frameB_length]
  have hm : ((frameB xs).set j y).getD 0 0 = 197 := by
    obtain ⟨i, rfl⟩ : ∃ i, j = i + 1 := ⟨j - 1, by omega⟩
    simp [frameB, frameH]
  have hc : cntS ((frameB xs).set j y) = xs.length := by
    have := cnt_frame xs [] h
    rw [List.append_nil] at this
    rw [← this]
    unfold cntS
    congr 1
    congr 1
    obtain ⟨i, rfl⟩ : ∃ i, j = i + 4 := ⟨j - 4, by omega⟩
    simp [frameB, frameH, lowB, List.range_succ]
  unfold unframeS
  rw [hlen, if_neg (by omega), if_neg (fun h => h hm), if_neg (by omega), hc, if_neg (by omega), if_neg (by omega), if_pos]
  have hH : (frameB xs).take (4 + xs.length) = frameH xs := by
    unfold frameB
    exact List.take_left' (by rw [frameH_length]; omega)
  have hS : ((frameB xs).drop (4 + xs.length)).take 4 = lowB (sumS (frameH xs)) 4 := by
    unfold frameB
    rw [List.drop_left' (by rw [frameH_length]; omega)]
    exact List.take_of_length_le (by rw [lowB_length]; omega)
  have hb := sumS_bd (frameH xs)
  by_cases hjn : j < 4 + xs.length
  · have e1 : ((frameB xs).set j y).take (4 + xs.length) = (frameH xs).set j y := by rw [← hH, List.take_set]
    have e2 : (((frameB xs).set j y).drop (4 + xs.length)).take 4 = lowB (sumS (frameH xs)) 4 := by rw [← hS, List.drop_set, if_pos hjn]
    rw [e1, e2, lowS_lowB4 _ hb.1 (by omega)]
    refine sum_set (frameH xs) j y (by rw [frameH_length]; omega) (frameH_isB hB) hy ?_
    rw [← hH]
    have : ((frameB xs).take (4 + xs.length)).getD j 0 = (frameB xs).getD j 0 := by simp [hjn]
    rw [this]
    exact hne
  · have e1 : ((frameB xs).set j y).take (4 + xs.length) = frameH xs := by rw [← hH, List.take_set_of_le (by omega)]
    have e2 : (((frameB xs).set j y).drop (4 + xs.length)).take 4 = (lowB (sumS (frameH xs)) 4).set (j - (4 + xs.length)) y := by rw [← hS, List.drop_set, if_neg hjn, List.take_set]
    rw [e1, e2]
    intro hq
    have hq2 : lowS (lowB (sumS (frameH xs)) 4) = lowS ((lowB (sumS (frameH xs)) 4).set (j - (4 + xs.length)) y) := by rw [← hq]; exact lowS_lowB4 _ hb.1 (by omega)
    have hq3 := low4_inj _ _ (lowB_length _ _) (by rw [List.length_set, lowB_length]) (lowB_isB _ _) (set_isB (lowB_isB _ _) _ _ hy) hq2
    apply hne
    have hg : (frameB xs).getD j 0 = (lowB (sumS (frameH xs)) 4).getD (j - (4 + xs.length)) 0 := by
      rw [← hS]
      have h1 : j - (4 + xs.length) < 4 := by omega
      have h2 : 4 + xs.length + (j - (4 + xs.length)) = j := by omega
      simp [h1, h2]
    rw [hg, hq3]
    have hl : j - (4 + xs.length) < (lowB (sumS (frameH xs)) 4).length := by rw [lowB_length]; omega
    simp [hl]

end Go.Proofs.YtojfihfdnchkeaaGreatDoor
