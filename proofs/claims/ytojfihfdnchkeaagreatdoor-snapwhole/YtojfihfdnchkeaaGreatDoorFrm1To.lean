import Derived.Test.YtojfihfdnchkeaaGreatDoorWaXTo
import Derived.Test.YtojfihfdnchkeaaGreatDoorFrm0
import Derived.BigQuiet
import Derived.WalkSmall
import Derived.Deep.RegionLaw
namespace Go.Proofs.YtojfihfdnchkeaaGreatDoor
open Go.RowKit
set_option maxRecDepth 100000 in
set_option maxHeartbeats 1000000 in
theorem low_any (v : Value) (xs : List Int) (w : World) (hv : Has w v xs) (hl : xs.length ≤ 4) (hB : IsB xs) :
    Calls Tryz.prog 160 #[v] w fun e w' => e = .returned (.int .u32 (lowS xs)) ∧ w' = w := by
  obtain ⟨p, c, rfl, hc, hnone, hcell⟩ := hv
  clear hnone
  have HT : ∀ j, Hid (lowT xs (j + 1) = bits BinOp.or .u32 (lowT xs j) (xs.getD j 0 * 2 ^ (8 * j) % 4294967296)) := fun _ => rfl
  have HB := lowT_bd xs
  have HL : Hid (lowS xs = lowT xs xs.length) := rfl
  have H0 : Hid (lowT xs 0 = 0) := rfl
  generalize lowT xs = G at *
  go_enter Tryz.func160, Tryz.ntmps160
  go_wp2
  go_loop [3, 8] (fun s i => ∃ j : Nat, j ≤ xs.length ∧ i = .int .i64 j ∧ s = .int .u32 (G j)) (fun _ i => xs.length - (intOf i).toNat)
  case atStart => exact ⟨0, Nat.zero_le _, rfl, by rw [H0.out]⟩
  case round =>
    obtain ⟨j, hj, rfl, rfl⟩ := hrel
    have hb := HB j
    have H1 := HT j
    clear HB HT
    by_cases hlt : j < xs.length
    · obtain ⟨b, o, rfl, _, hcl⟩ := hcell (by omega)
      have h1 := hcl j hlt
      have hbb := hB.getD j
      clear hcl hcell hB
      generalize xs.getD j 0 = x at *
      go_wp2
      go_round
      case rel => exact ⟨j + 1, by omega, by go_num, by rw [H1.out]⟩
      case measure => simp [intOf]; omega
    · obtain rfl : j = xs.length := by omega
      go_wp2
      go_ret
      rw [HL.out]
      exact ⟨rfl, rfl⟩

theorem lowS_bd (xs : List Int) : 0 ≤ lowS xs ∧ lowS xs ≤ 4294967295 := lowT_bd _ _

set_option maxRecDepth 100000 in
set_option maxHeartbeats 1000000 in
theorem unframe_any (v : Value) (xs : List Int) (w : World) (hT : Tab w) (hv : Has w v xs) (hl : xs.length ≤ 1099511627776) (hB : IsB xs) :
    Calls Tryz.prog 79 #[v] w fun e w' => ∃ v', e = .returned (.tuple #[v', .int .i64 (unframeS xs).2.1, .int .i64 (unframeS xs).2.2]) ∧ Has w' v' (unframeS xs).1 ∧ Below w.heap.size w w' := by
  obtain ⟨i0, hi, hz0, hz1, hz2⟩ := info_parts info8c
  obtain ⟨p, c, rfl, hc, hnone, hcell⟩ := id hv
  clear hnone
  rcases Nat.eq_zero_or_pos xs.length with hn | hn
  · obtain rfl : xs = [] := List.eq_nil_of_length_eq_zero hn
    go_enter Tryz.func79, Tryz.ntmps79
    go_wp2
    go_ret3
    exact ⟨_, rfl, Has.nil _, Below.refl _ _⟩
  · obtain ⟨b, o, rfl, hbl, hcl⟩ := hcell hn
    have h1 := hcl 0 hn
    rw [Nat.add_zero] at h1
    have hne : ¬ xs.length = 0 := by omega
    have hnb : ((xs.length : Int) == 0) = false := by rw [beq_eq_false_iff_ne]; omega
    clear hcell
    by_cases hm : xs.getD 0 0 = 197
    · rw [hm] at h1
      by_cases h4 : xs.length < 4
      · have HU : Hid (unframeS xs = ([], 0, 10)) := by rw [Hid, unframeS, if_neg hne, if_neg (fun h => h hm), if_pos h4]
        go_enter Tryz.func79, Tryz.ntmps79
        go_wp2
        go_ret3
        rw [HU.out]
        exact ⟨_, rfl, Has.nil _, Below.refl _ _⟩
      · have hcut3 := hv.cutAt 1 3 (by omega)
        have hB3 := IsB.cutB hB 1 3
        have hbd := lowS_bd ((xs.drop 1).take 3)
        have HC : Hid (cntS xs = (lowS ((xs.drop 1).take 3)).toNat) := rfl
        have h3l : ((xs.drop 1).take 3).length ≤ 4 := by rw [List.length_take]; omega
        generalize (xs.drop 1).take 3 = ys at *
        by_cases hbig : 1048576 < lowS ys
        · have HU : Hid (unframeS xs = ([], 0, 6)) := by rw [Hid, unframeS, if_neg hne, if_neg (fun h => h hm), if_neg h4, if_pos (by rw [HC.out]; omega)]
          go_enter Tryz.func79, Tryz.ntmps79
          go_wp2_with (go_at_call 160; refine same_mono (low_any _ ys _ hcut3 h3l hB3) ?_)
          go_ret3
          rw [HU.out]
          exact ⟨_, rfl, Has.nil _, Below.refl _ _⟩
        · obtain ⟨n, hn'⟩ : ∃ n : Nat, lowS ys = n := ⟨(lowS ys).toNat, by omega⟩
          have HN : Hid (lowS ys = (n : Int)) := hn'
          have hcn : cntS xs = n := by rw [HC.out, hn']; rfl
          rw [hn'] at hbd hbig
          clear hn' HC
          by_cases hsh : xs.length < n + 8
          · have HU : Hid (unframeS xs = ([], 0, 10)) := by rw [Hid, unframeS, if_neg hne, if_neg (fun h => h hm), if_neg h4, hcn, if_neg (by omega), if_pos hsh]
            clear hcn
            go_enter Tryz.func79, Tryz.ntmps79
            go_wp2_with (go_at_call 160; refine same_mono (low_any _ ys _ hcut3 h3l hB3) ?_; rw [HN.out])
            go_ret3
            rw [HU.out]
            exact ⟨_, rfl, Has.nil _, Below.refl _ _⟩
          · have hs1 := hv.takeN (4 + n) (by omega)
            have hs2 := hv.cutAt (4 + n) 4 (by omega)
            have hB1 := IsB.takeB hB (4 + n)
            have hB2 := IsB.cutB hB (4 + n) 4
            have hl2 : ((xs.drop (4 + n)).take 4).length ≤ 4 := by rw [List.length_take]; omega
            have hl1 : (xs.take (4 + n)).length ≤ 1099511627776 := by rw [List.length_take]; omega
            have HUeq : Hid (unframeS xs = if sumS (xs.take (4 + n)) ≠ lowS ((xs.drop (4 + n)).take 4) then ([], 0, 8) else ((xs.drop 4).take n, (n : Int) + 8, 0)) := by
              rw [Hid, unframeS, if_neg hne, if_neg (fun h => h hm), if_neg h4, hcn, if_neg (by omega), if_neg hsh]
            clear hcn
            generalize xs.take (4 + n) = y1 at *
            generalize (xs.drop (4 + n)).take 4 = y2 at *
            by_cases heq : sumS y1 = lowS y2
            · have HU : Hid (unframeS xs = ((xs.drop 4).take n, (n : Int) + 8, 0)) := by rw [Hid, HUeq.out, if_neg (fun h => h heq)]
              have hneq : (sumS y1 != lowS y2) = false := by rw [heq]; simp
              have hs4 := hv.cutAt 4 n (by omega)
              have hl4 : ((xs.drop 4).take n).length ≤ 1048576 := by rw [List.length_take]; omega
              clear HUeq
              go_enter Tryz.func79, Tryz.ntmps79
              go_wp2_with (go_at_call 160; refine same_mono (low_any _ ys _ hcut3 h3l hB3) ?_; rw [HN.out])
              go_quiet (first | (go_at_call 161; exact Calls.quiet_of_same (sum_cod _ y1 _ (by first | exact hT | exact hT.below (below_drewN (Below.refl _ _) _) (Nat.le_refl _)) (by first | exact hs1 | exact hs1.below (below_drewN (Below.refl _ _) _) (Nat.le_refl _)) hl1 hB1)) | (go_at_call 160; exact Calls.quiet_of_same (low_any _ y2 _ (by first | exact hs2 | exact hs2.below (below_drewN (Below.refl _ _) _) (Nat.le_refl _)) hl2 hB2)))
              rw [heq]
              clear heq hneq hs1 hs2 hB1 hB2 hl1 hl2 hcut3 hB3 h3l hcl
              obtain ⟨M, hM, hmk⟩ : ∃ M : Array Value, M.size = n * 1 ∧ ∀ W : World, (Instr.makeSlice 38 (.int .i64 0) (.int .u32 (n : Int))).run Tryz.prog W = .ok (.slice (some ⟨W.heap.size, 0, none⟩) 0 n) (W.alloc (.cells M 5)) :=
                ⟨madeCells (Value.int .u8 0).cells (n * i0.size), by rw [hz1]; exact size_madeCells _ _, fun W => run_make W 38 5 i0 (.int .u8 0) Tryz.underlying38 hi hz0 .i64 .u32 0 n (by omega) (by omega) (by rw [hz2]; omega) (by omega)⟩
              have q1 : (0 : Int) ≤ 4 + (n : Int) := by omega
              have q2 : (4 : Int) + (n : Int) ≤ (c : Int) := by omega
              have q3 : (4 : Int) ≤ max (4 + (n : Int)) 0 := by omega
              have q4 : ¬ c = 4 := by omega
              have q5 : ((4 : Int) + (n : Int)).toNat - 4 = n := by omega
              go_wp2_with fail
              go_region_law (refine step_slice _ rfl (.tmp 46) (.tmp 49) 38 rfl w.heap.size 5 i0 Tryz.underlying38 hi hz0 hz1 hz2 _ [] ((xs.drop 4).take n) rfl (by exact (hs4.below (below_drewN (Below.refl _ _) _) (Nat.le_refl _)).below ((Below.refl _ _).alloc (Nat.le_refl _) _) (Nat.le_refl _)) (by exact World.ownsRow_made _ M n (Nat.le_refl _) (by unfold maxLen; omega) hM) (by simp) (by omega) (by simp) ?_; intro v5 w5 ho5 hb5)
              rw [List.nil_append] at ho5
              have hb5w : Below w.heap.size w w5 := ((below_drewN (Below.refl w.heap.size w) (nq + 1)).alloc (Nat.le_refl _) _).trans hb5
              clear hb5
              go_wp2
              go_ret3
              rw [HU.out]
              exact ⟨_, congrArg (fun z => Ending.returned (Value.tuple #[v5, .int .i64 z, .int .i64 0])) (show (4 : Int) + (n : Int) + 4 = (n : Int) + 8 by omega), ho5.has, hb5w⟩
            · have HU : Hid (unframeS xs = ([], 0, 8)) := by rw [Hid, HUeq.out, if_pos heq]
              have hneq : (sumS y1 != lowS y2) = true := by simpa using heq
              clear HUeq
              go_enter Tryz.func79, Tryz.ntmps79
              go_wp2_with (go_at_call 160; refine same_mono (low_any _ ys _ hcut3 h3l hB3) ?_; rw [HN.out])
              go_quiet (first | (go_at_call 161; exact Calls.quiet_of_same (sum_cod _ y1 _ (by first | exact hT | exact hT.below (below_drewN (Below.refl _ _) _) (Nat.le_refl _) | (trace_state; fail)) (by first | exact hs1 | exact hs1.below (below_drewN (Below.refl _ _) _) (Nat.le_refl _)) hl1 hB1)) | (go_at_call 160; exact Calls.quiet_of_same (low_any _ y2 _ (by first | exact hs2 | exact hs2.below (below_drewN (Below.refl _ _) _) (Nat.le_refl _)) hl2 hB2)))
              go_wp2
              go_ret3
              rw [HU.out]
              exact ⟨_, rfl, Has.nil _, below_drewN (Below.refl _ _) _⟩
    · have HU : Hid (unframeS xs = ([], 0, 8)) := by rw [Hid, unframeS, if_neg hne, if_pos hm]
      have hmb : (xs.getD 0 0 != 197) = true := by simpa using hm
      generalize xs.getD 0 0 = x0 at *
      go_enter Tryz.func79, Tryz.ntmps79
      go_wp2
      go_ret3
      rw [HU.out]
      exact ⟨_, rfl, Has.nil _, Below.refl _ _⟩
theorem frameB_isB {xs : List Int} (h : IsB xs) : IsB (frameB xs) := IsB.append (frameH_isB h) (lowB_isB _ _)

theorem low3 (a b c : Int) (h : IsB [a, b, c]) : lowS [a, b, c] = a + b * 256 + c * 65536 := by
  rw [show lowS [a, b, c] = lowT [a, b, c] 3 from rfl, lowT3 _ h]; rfl
theorem low4 (a b c d : Int) (h : IsB [a, b, c, d]) : lowS [a, b, c, d] = a + b * 256 + c * 65536 + d * 16777216 := by
  rw [show lowS [a, b, c, d] = lowT [a, b, c, d] 4 from rfl, lowT4 _ h]; rfl
theorem lowS_lowB3 (u : Int) (h0 : 0 ≤ u) (h1 : u < 16777216) : lowS (lowB u 3) = u := by
  rw [show lowB u 3 = [u / 2 ^ 0 % 256, u / 2 ^ 8 % 256, u / 2 ^ 16 % 256] from rfl, low3 _ _ _ (lowB_isB u 3)]
  show u / 1 % 256 + u / 256 % 256 * 256 + u / 65536 % 256 * 65536 = u
  omega
theorem lowS_lowB4 (u : Int) (h0 : 0 ≤ u) (h1 : u < 4294967296) : lowS (lowB u 4) = u := by
  rw [show lowB u 4 = [u / 2 ^ 0 % 256, u / 2 ^ 8 % 256, u / 2 ^ 16 % 256, u / 2 ^ 24 % 256] from rfl, low4 _ _ _ _ (lowB_isB u 4)]
  show u / 1 % 256 + u / 256 % 256 * 256 + u / 65536 % 256 * 65536 + u / 16777216 % 256 * 16777216 = u
  omega

theorem cnt_frame (xs r : List Int) (h : xs.length ≤ 1048576) : cntS (frameB xs ++ r) = xs.length := by
  unfold cntS
  have e : ((frameB xs ++ r).drop 1).take 3 = lowB xs.length 3 := by simp [frameB, frameH, lowB, List.range_succ]
  rw [e, lowS_lowB3 _ (by omega) (by omega)]
  simp
theorem unframe_frame (xs r : List Int) (h : xs.length ≤ 1048576) : unframeS (frameB xs ++ r) = (xs, (xs.length : Int) + 8, 0) := by
  have hlen : (frameB xs ++ r).length = xs.length + 8 + r.length := by rw [List.length_append, frameB_length]
  have h0 : (frameB xs ++ r).getD 0 0 = 197 := by simp [frameB, frameH]
  have hc := cnt_frame xs r h
  have hH : (frameB xs ++ r).take (4 + xs.length) = frameH xs := by
    unfold frameB
    rw [List.append_assoc]
    exact List.take_left' (by rw [frameH_length]; omega)
  have hS : ((frameB xs ++ r).drop (4 + xs.length)).take 4 = lowB (sumS (frameH xs)) 4 := by
    unfold frameB
    rw [List.append_assoc, List.drop_left' (by rw [frameH_length]; omega)]
    exact List.take_left' (lowB_length _ _)
  have hX : ((frameB xs ++ r).drop 4).take xs.length = xs := by
    simp [frameB, frameH, lowB, List.range_succ]
  have hb := sumS_bd (frameH xs)
  unfold unframeS
  rw [if_neg (by omega), if_neg (fun h => h h0), if_neg (by omega), hc, if_neg (by omega), if_neg (by omega), hH, hS, lowS_lowB4 _ hb.1 (by omega), if_neg (fun h => h rfl), hX]

end Go.Proofs.YtojfihfdnchkeaaGreatDoor
