import Derived.Test.YthlelcmifolnfaaGreatDoorChecked
import Derived.Test.YthlelcmifolnfaaGreatDoorOnceTo
import Derived.Test.YthlelcmifolnfaaGreatDoorBack0To
import Derived.Test.YthlelcmifolnfaaGreatDoorCrc
import Derived.AtR
namespace Go.Proofs.YthlelcmifolnfaaGreatDoor
open Go.RowKit
theorem info8c : (Tryz.prog.info? 5).map (fun i => (i.zero, i.size, i.bytes)) = some (some (.int .u8 0), 1, 1) := by kernel_rfl

theorem ret_int {k : IntKind} {a b : Int} (h : a = b) : Ending.returned (.int k a) = .returned (.int k b) := by rw [h]

theorem len_way (u j : Int) (n : Nat) (hj : j.toNat < Lib.len8tab.size) (hn : n ≤ 56) (hx : Lib.bitLen u.toNat = n + Lib.bitLen j.toNat) :
    wrap64 ((n : Int) + wrap64 ((Lib.len8tab[j.toNat]'hj).toNat : Int)) = (Lib.bitLen u.toNat : Int) := by
  have hi : j.toNat < 256 := by rw [Lib.len8tab_size] at hj; exact hj
  have hb := Lib.bitLen_le8 ⟨j.toNat, hi⟩
  simp only at hb
  rw [len8tab_at _ hj, hx, IntWalk.wrap64_in (Lib.bitLen j.toNat : Int) ⟨by omega, by omega⟩, IntWalk.wrap64_in _ ⟨by omega, by omega⟩]
  omega
theorem len_way0 (u : Int) (hj : u.toNat < Lib.len8tab.size) :
    wrap64 (wrap64 ((Lib.len8tab[u.toNat]'hj).toNat : Int)) = (Lib.bitLen u.toNat : Int) := by
  have := len_way u u 0 hj (by omega) (by omega)
  rw [← this]
  congr 1
  simp

set_option maxRecDepth 100000 in
set_option maxHeartbeats 1000000 in
set_option maxRecDepth 10000 in
theorem len64_any (u : Int) (w : World) (h0 : 0 ≤ u) (h1 : u < 18446744073709551616) :
    Calls Tryz.prog 213 #[.int .u64 u] w fun e w' => e = .returned (.int .i64 (Lib.bitLen u.toNat)) ∧ w' = w := by
  have hsz := Lib.len8tab_size
  go_enter Tryz.func213, Tryz.ntmps213
  go_wp2
  · go_ret
    refine ⟨ret_int (len_way u (u / 4294967296 / 65536 / 256) 56 _ (by omega) ?_), rfl⟩
    rw [show (u / 4294967296 / 65536 / 256).toNat = u.toNat / 72057594037927936 by omega]; exact Lib.bitLen_shift56 u.toNat (by omega) (by omega)
  · go_ret
    refine ⟨ret_int (len_way u (u / 4294967296 / 65536) 48 _ (by omega) ?_), rfl⟩
    rw [show (u / 4294967296 / 65536).toNat = u.toNat / 281474976710656 by omega]; exact Lib.bitLen_shift48 u.toNat (by omega) (by omega)
  · go_ret
    refine ⟨ret_int (len_way u (u / 4294967296 / 256) 40 _ (by omega) ?_), rfl⟩
    rw [show (u / 4294967296 / 256).toNat = u.toNat / 1099511627776 by omega]; exact Lib.bitLen_shift40 u.toNat (by omega) (by omega)
  · go_ret
    refine ⟨ret_int (len_way u (u / 4294967296) 32 _ (by omega) ?_), rfl⟩
    rw [show (u / 4294967296).toNat = u.toNat / 4294967296 by omega]; exact Lib.bitLen_shift32 u.toNat (by omega) (by omega)
  · go_ret
    refine ⟨ret_int (len_way u (u / 65536 / 256) 24 _ (by omega) ?_), rfl⟩
    rw [show (u / 65536 / 256).toNat = u.toNat / 16777216 by omega]; exact Lib.bitLen_shift24 u.toNat (by omega) (by omega)
  · go_ret
    refine ⟨ret_int (len_way u (u / 65536) 16 _ (by omega) ?_), rfl⟩
    rw [show (u / 65536).toNat = u.toNat / 65536 by omega]; exact Lib.bitLen_shift16 u.toNat (by omega) (by omega)
  · go_ret
    refine ⟨ret_int (len_way u (u / 256) 8 _ (by omega) ?_), rfl⟩
    rw [show (u / 256).toNat = u.toNat / 256 by omega]; exact Lib.bitLen_shift8 u.toNat (by omega) (by omega)
  · go_ret
    exact ⟨ret_int (len_way0 u _), rfl⟩

set_option maxRecDepth 100000 in
set_option maxHeartbeats 1000000 in
theorem tail_any (u : Int) (w : World) (h0 : 0 ≤ u) (h1 : u < 18446744073709551616) :
    Calls Tryz.prog 228 #[.int .u64 u] w fun e w' => e = .returned (.int .i64 (more u.toNat : Nat)) ∧ w' = w := by
  have hb := or_one_bounds u h0 h1
  have hbl := bitLen_bounds (bits BinOp.or .u64 u 1).toNat (by omega) (by omega)
  have HM : Hid (min (((Lib.bitLen (bits BinOp.or .u64 u 1).toNat : Int) - 1) / 7) 8 = (more u.toNat : Int)) := more_of_bits u h0 h1
  go_enter Tryz.func228, Tryz.ntmps228
  go_wp2_with (go_at_call 213; refine (len64_any _ _ (by omega) (by omega)).mono ?_; rintro e w' ⟨rfl, rfl⟩)
  all_goals
    go_ret
    refine ⟨ret_int ?_, rfl⟩
    have := HM.out
    omega

set_option maxRecDepth 100000 in
set_option maxHeartbeats 1000000 in
theorem withRoom_any (v : Value) (xs : List Int) (m : Int) (w : World) (hv : Has w v xs) (hl : xs.length ≤ 1099511627776) (hm0 : 0 ≤ m) (hm1 : m ≤ 1099511627776) :
    Calls Tryz.prog 180 #[v, .int .i64 m] w fun e w' => ∃ v', e = .returned v' ∧ Owns w' w.heap.size 5 v' xs ∧ Below w.heap.size w w' := by
  obtain ⟨i0, hi, hz0, hz1, hz2⟩ := info_parts info8c
  obtain ⟨p, c, rfl, hc, hnone, hcell⟩ := id hv
  obtain ⟨M, rfl⟩ := Int.eq_ofNat_of_zero_le hm0
  clear hnone hcell
  go_enter Tryz.func180, Tryz.ntmps180
  go_wp2_with (first
    | (at_make; refine wpList_make_own _ rfl _ _ 25 rfl w.heap.size 5 i0 (.int .u8 0) 1 Tryz.underlying25 hi hz0 hz1 _ _ _ (xs.length + M) rfl rfl (by omega) (by rw [hz2]; omega) (by unfold maxLen; omega) (Nat.le_refl _) ?_; intro w0 hown0 hgrow0)
    | (at_builtin; refine ap_slice _ rfl _ _ 25 rfl w.heap.size 5 i0 Tryz.underlying25 hi hz0 hz1 hz2 _ [] xs rfl (by exact hv.below ((Below.refl w.heap.size w).grown hgrow0 (Nat.le_refl _) (fun k h => by cases h)) (Nat.le_refl _)) (by exact hown0) (by simp) hl (by exact hgrow0.size) ?_; intro v1 w1 hown1 hbel1))
  go_ret
  exact ⟨_, rfl, by simpa using hown1, ((Below.refl w.heap.size w).grown hgrow0 (Nat.le_refl _) (fun k h => by cases h)).trans hbel1⟩
theorem range_step (xs : List Int) (a : Int) (f : Nat → Int) (j : Nat) : (xs ++ a :: (List.range j).map f) ++ [f j] = xs ++ a :: (List.range (j + 1)).map f := by
  simp [List.range_succ]

set_option maxRecDepth 100000 in
set_option maxHeartbeats 1000000 in
theorem appNum_any (v : Value) (xs : List Int) (u : Int) (B : Nat) (w : World) (hown : Owns w B 5 v xs) (hB : B ≤ w.heap.size) (hl : xs.length ≤ 1099511627000) (h0 : 0 ≤ u) (h1 : u < 18446744073709551616) :
    Calls Tryz.prog 179 #[v, .int .u64 u] w fun e w' => ∃ v', e = .returned v' ∧ Owns w' B 5 v' (xs ++ numB u) ∧ Below B w w' := by
  obtain ⟨i0, hi, hz0, hz1, hz2⟩ := info_parts info8c
  have hk := more_le u.toNat
  unfold numB
  generalize hkk : more u.toNat = k at *
  have HK : Hid (more u.toNat = k) := hkk
  clear hkk
  go_enter Tryz.func179, Tryz.ntmps179
  go_wp2_with (first
    | (go_at_call 228; refine same_mono (tail_any _ _ (by omega) (by omega)) ?_; rw [HK.out])
    | (at_builtin; refine ap_one _ rfl (.tmp 13) (.tmp 21) 25 rfl B 5 i0 Tryz.underlying25 hi hz0 hz1 hz2 _ xs (fb u k) rfl rfl (by exact hown) (by omega) hB ?_; intro v1 w1 hown1 hbel1))
  go_loopw [0, 24] (fun v i wr => ∃ j : Nat, j ≤ k ∧ i = .int .i64 j ∧ Owns wr B 5 v (xs ++ fb u k :: (List.range j).map (bt u k)) ∧ Below B w wr) (fun _ i _ => k - (intOf i).toNat)
  case atStart => exact ⟨0, Nat.zero_le _, rfl, hown1, hbel1⟩
  case round =>
    obtain ⟨j, hj, rfl, hr, hbr⟩ := hrel
    by_cases hlt : j < k
    · go_wp2_with (at_builtin; refine ap_one _ rfl (.tmp 27) (.tmp 36) 25 rfl B 5 i0 Tryz.underlying25 hi hz0 hz1 hz2 _ _ (bt u k j) rfl rfl (by exact hr) (by simp; omega) (Nat.le_trans hB hbr.size) ?_; intro v2 w2 hown2 hbel2)
      go_roundw
      case rel => exact ⟨j + 1, by omega, by go_num, by rw [← range_step]; exact hown2, hbr.trans hbel2⟩
      case measure => simp [intOf]; omega
    · obtain rfl : j = k := by omega
      go_wp2
      go_ret
      exact ⟨_, rfl, hr, hbr⟩

set_option maxRecDepth 100000 in
set_option maxHeartbeats 1000000 in
theorem put_any (v : Value) (xs : List Int) (u : Int) (w : World) (hv : Has w v xs) (hl : xs.length ≤ 1099511620000) (h0 : 0 ≤ u) (h1 : u < 18446744073709551616) :
    Calls Tryz.prog 145 #[v, .int .u64 u] w fun e w' => ∃ v', e = .returned v' ∧ Owns w' w.heap.size 5 v' (xs ++ numB u) ∧ Below w.heap.size w w' := by
  go_enter Tryz.func145, Tryz.ntmps145
  go_wp2_with (first
    | (go_at_call 180; refine (withRoom_any _ xs _ _ hv (by omega) (by omega) (by omega)).mono ?_; rintro e w1 ⟨v1, rfl, ho1, hb1⟩)
    | (go_at_call 179; refine (appNum_any _ xs u _ _ ho1 hb1.size (by omega) h0 h1).mono ?_; rintro e w2 ⟨v2, rfl, ho2, hb2⟩))
  go_ret
  exact ⟨_, rfl, ho2, hb1.trans hb2⟩
def rotL (u : Int) : Int := bits BinOp.or .u64 (IntKind.u64.wrap (u * 2)) (u / 9223372036854775808)

set_option maxRecDepth 100000 in
set_option maxHeartbeats 1000000 in
theorem rotL_any (u : Int) (w : World) :
    Calls Tryz.prog 181 #[.int .u64 u, .int .i64 1] w fun e w' => e = .returned (.int .u64 (rotL u)) ∧ w' = w := by
  have e : IntKind.u64.wrap 1 = 1 := by decide
  have e2 : bits BinOp.and IntKind.u64 1 63 = 1 := by decide +kernel
  go_enter Tryz.func181, Tryz.ntmps181
  go_wp2
  go_ret
  exact ⟨rfl, rfl⟩

def zigS (n : Int) : Int := rotL (IntKind.u64.wrap n)
set_option maxRecDepth 100000 in
set_option maxHeartbeats 1000000 in
theorem zig_any (n : Int) (w : World) :
    Calls Tryz.prog 146 #[.int .i64 n] w fun e w' => e = .returned (.int .u64 (zigS n)) ∧ w' = w := by
  go_enter Tryz.func146, Tryz.ntmps146
  go_wp2_with fail
  refine same_mono (rotL_any _ _) ?_
  go_wp2
  go_ret
  exact ⟨rfl, rfl⟩

theorem ofBytes_inj {xs ys : List Int} (hx : IsB xs) (hy : IsB ys) (h2 : (xs.map fun n => UInt8.ofNat n.toNat) = ys.map fun n => UInt8.ofNat n.toNat) : xs = ys := by
  induction xs generalizing ys with
  | nil => cases ys with
    | nil => rfl
    | cons y ys => simp at h2
  | cons x xs ih => cases ys with
    | nil => simp at h2
    | cons y ys =>
      simp only [List.map_cons, List.cons.injEq] at h2
      have hx0 := hx x List.mem_cons_self
      have hy0 := hy y List.mem_cons_self
      have e : x = y := by
        have := congrArg UInt8.toNat h2.1
        simp at this
        omega
      rw [e, ih (fun a ha => hx a (List.mem_cons_of_mem _ ha)) (fun a ha => hy a (List.mem_cons_of_mem _ ha)) h2.2]

theorem strs_beq {xs ys : List Int} (hx : IsB xs) (hy : IsB ys) : ((strOfNums xs).toList == (strOfNums ys).toList) = (xs == ys) := by
  rw [ByteArray.toList_eq, ByteArray.toList_eq, strOfNums_data, strOfNums_data, Bool.eq_iff_iff]
  simp only [beq_iff_eq]
  exact ⟨ofBytes_inj hx hy, fun h => by rw [h]⟩

set_option maxRecDepth 100000 in
set_option maxHeartbeats 1000000 in
theorem same_any (v1 v2 : Value) (xs ys : List Int) (w : World) (h1 : Has w v1 xs) (h2 : Has w v2 ys) (hx : IsB xs) (hy : IsB ys) :
    Calls Tryz.prog 9 #[v1, v2] w fun e w' => e = .returned (.bool (xs == ys)) ∧ w' = w := by
  have c1 := h1.conv (P := Tryz.prog) 25 5 9 Tryz.underlying25 Tryz.underlying5 Tryz.underlying9
  have c2 := h2.conv (P := Tryz.prog) 25 5 9 Tryz.underlying25 Tryz.underlying5 Tryz.underlying9
  go_enter Tryz.func9, Tryz.ntmps9
  go_wp2
  go_ret
  exact ⟨congrArg (fun b => Ending.returned (Value.bool b)) (strs_beq hx hy), rfl⟩

def strB (s : ByteArray) : List Int := s.data.toList.map fun b => (b.toNat : Int)
theorem strB_length (s : ByteArray) : (strB s).length = s.size := by unfold strB; rw [List.length_map, Array.length_toList]; rfl
def textB (s : ByteArray) : List Int := numB s.size ++ strB s

set_option maxRecDepth 100000 in
set_option maxHeartbeats 1000000 in
theorem putText_any (v : Value) (xs : List Int) (s : ByteArray) (w : World) (hv : Has w v xs) (hl : xs.length ≤ 1073741824) (hs : s.size ≤ 1073741824) :
    Calls Tryz.prog 227 #[v, .string s] w fun e w' => ∃ v', e = .returned v' ∧ Owns w' w.heap.size 5 v' (xs ++ textB s) ∧ Below w.heap.size w w' := by
  obtain ⟨i0, hi, hz0, hz1, hz2⟩ := info_parts info8c
  have hnl := numB_le s.size
  go_enter Tryz.func227, Tryz.ntmps227
  go_wp2_with (first
    | (go_at_call 180; refine (withRoom_any _ xs _ _ hv (by omega) (by omega) (by omega)).mono ?_; rintro e w1 ⟨v1, rfl, ho1, hb1⟩)
    | (go_at_call 179; refine (appNum_any _ xs (s.size : Int) _ _ ho1 hb1.size (by omega) (by omega) (by omega)).mono ?_; rintro e w2 ⟨v2, rfl, ho2, hb2⟩)
    | (at_builtin; refine ap_text _ rfl (.tmp 14) (.tmp 15) 25 9 rfl w.heap.size 5 i0 Tryz.underlying25 Tryz.underlying9 hi hz0 hz1 hz2 _ _ s rfl rfl (by exact ho2) (by rw [List.length_append]; omega) (by omega) (by exact (hb1.trans hb2).size) ?_; intro v3 w3 ho3 hb3))
  go_ret
  exact ⟨_, rfl, by rw [textB, ← List.append_assoc]; exact ho3, (hb1.trans hb2).trans hb3⟩

def rotR (u : Int) : Int := bits BinOp.or .u64 (IntKind.u64.wrap (u * 9223372036854775808)) (u / 2)
def zagS (u : Int) : Int := wrap64 (rotR u)


set_option maxRecDepth 100000 in
set_option maxHeartbeats 1000000 in
theorem rotR_any (u : Int) (w : World) :
    Calls Tryz.prog 181 #[.int .u64 u, .int .i64 (-1)] w fun e w' => e = .returned (.int .u64 (rotR u)) ∧ w' = w := by
  have e : IntKind.u64.wrap (-1) = 18446744073709551615 := by decide
  have e2 : bits BinOp.and IntKind.u64 18446744073709551615 63 = 63 := by decide +kernel
  go_enter Tryz.func181, Tryz.ntmps181
  go_wp2
  go_ret
  exact ⟨rfl, rfl⟩

set_option maxRecDepth 100000 in
set_option maxHeartbeats 1000000 in
theorem zag_any (u : Int) (w : World) :
    Calls Tryz.prog 183 #[.int .u64 u] w fun e w' => e = .returned (.int .i64 (zagS u)) ∧ w' = w := by
  go_enter Tryz.func183, Tryz.ntmps183
  go_wp2_with fail
  refine same_mono (rotR_any _ _) ?_
  go_wp2
  go_ret
  exact ⟨rfl, rfl⟩

set_option maxRecDepth 100000 in
set_option maxHeartbeats 1000000 in
theorem upTo_any (m : Int) (w : World) : Calls Tryz.prog 252 #[.int .i64 m] w fun e w' => e = .returned (.func (.func 258) #[] #[.pointer (some ⟨w.heap.size, 0, none⟩)]) ∧ w' = w.alloc (.cells #[.int .i64 m] 3) := by
  go_enter Tryz.func252, Tryz.ntmps252
  go_wp2
  go_ret
  exact ⟨rfl, rfl⟩

def Tab (w : World) : Prop := 0 < w.heap.size ∧ ∀ i : Nat, i < 16 → w.cell? ⟨0, i, none⟩ = some (.int .u32 (nibs.getD i 0))

theorem Tab.below {w w' : World} {B : Nat} (h : Tab w) (hb : Below B w w') (hB : w.heap.size ≤ B) : Tab w' :=
  ⟨Nat.lt_of_lt_of_le h.1 hb.size, fun i hi => (hb.cell (p := ⟨0, i, none⟩) (Nat.lt_of_lt_of_le h.1 hB)).trans (h.2 i hi)⟩

theorem Tab.at {w : World} (h : Tab w) (c : Int) (h0 : 0 ≤ c) (h1 : c ≤ 4294967295) : w.cell? ⟨0, (bits BinOp.and .u32 c 15).toNat, none⟩ = some (.int .u32 (nib (bits BinOp.and .u32 c 15))) :=
  h.2 _ (by have := and15 c h0 h1; omega)

set_option maxRecDepth 100000 in
set_option maxHeartbeats 1000000 in
theorem sum_cod (v : Value) (xs : List Int) (w : World) (hT : Tab w) (hv : Has w v xs) (hl : xs.length ≤ 1099511627776) (hB : IsB xs) :
    Calls Tryz.prog 114 #[v] w fun e w' => e = .returned (.int .u32 (sumS xs)) ∧ w' = w := by
  obtain ⟨p, c, rfl, hc, hnone, hcell⟩ := hv
  clear hnone
  go_enter Tryz.func114, Tryz.ntmps114
  go_wp2
  go_loop [3, 7] (fun s i => ∃ j : Nat, j ≤ xs.length ∧ i = .int .i64 j ∧ s = .int .u32 (crc (xs.take j))) (fun _ i => xs.length - (intOf i).toNat)
  case atStart => exact ⟨0, Nat.zero_le _, rfl, rfl⟩
  case round =>
    obtain ⟨j, hj, rfl, rfl⟩ := hrel
    by_cases hlt : j < xs.length
    · obtain ⟨b, o, rfl, _, hcl⟩ := hcell (by omega)
      have h1 := hcl j hlt
      have hb := hB.getD j
      have hs : Hid (crc (xs.take (j + 1)) = stB (crc (xs.take j)) (xs.getD j 0)) := crc_take xs j hlt
      have hcb := crc_bd (xs.take j)
      clear hcl hcell hB
      generalize crc (xs.take j) = c0 at *
      generalize xs.getD j 0 = x at *
      have g1 := hT.at (bits BinOp.xor .u32 c0 x) (xor_bd _ _).1 (xor_bd _ _).2
      have g2 := hT.at (st1 (bits BinOp.xor .u32 c0 x)) (st1_bd _).1 (st1_bd _).2
      have b1 := and15 (bits BinOp.xor .u32 c0 x) (xor_bd _ _).1 (xor_bd _ _).2
      have b2 := and15 (st1 (bits BinOp.xor .u32 c0 x)) (st1_bd _).1 (st1_bd _).2
      unfold st1 at g2 b2
      go_wp2
      go_round
      case rel => exact ⟨j + 1, by omega, by go_num, by rw [hs.out]; rfl⟩
      case measure => simp [intOf]; omega
    · obtain rfl : j = xs.length := by omega
      go_wp2
      go_ret
      exact ⟨rfl, rfl⟩

def lowB (u : Int) (n : Nat) : List Int := (List.range n).map fun i => u / 2 ^ (8 * i) % 256

theorem lowB_step (xs : List Int) (u : Int) (j : Nat) : (xs ++ lowB u j) ++ [u / 2 ^ (8 * j) % 256] = xs ++ lowB u (j + 1) := by
  simp [lowB, List.range_succ]
theorem lowB_length (u : Int) (n : Nat) : (lowB u n).length = n := by simp [lowB]
theorem lowB_isB (u : Int) (n : Nat) : IsB (lowB u n) := fun x hx => by
  obtain ⟨i, _, rfl⟩ := List.mem_map.1 hx
  omega

set_option maxRecDepth 100000 in
set_option maxHeartbeats 1000000 in
theorem appLow_any (v : Value) (xs : List Int) (u : Int) (n : Nat) (B : Nat) (w : World) (hown : Owns w B 5 v xs) (hB : B ≤ w.heap.size) (hl : xs.length ≤ 1099511627000) (hn : n ≤ 4) :
    Calls Tryz.prog 144 #[v, .int .u32 u, .int .i64 n] w fun e w' => ∃ v', e = .returned v' ∧ Owns w' B 5 v' (xs ++ lowB u n) ∧ Below B w w' := by
  obtain ⟨i0, hi, hz0, hz1, hz2⟩ := info_parts info8c
  go_enter Tryz.func144, Tryz.ntmps144
  go_wp2
  go_loopw [0, 9] (fun v i wr => ∃ j : Nat, j ≤ n ∧ i = .int .i64 j ∧ Owns wr B 5 v (xs ++ lowB u j) ∧ Below B w wr) (fun _ i _ => n - (intOf i).toNat)
  case atStart => exact ⟨0, Nat.zero_le _, rfl, by simpa [lowB] using hown, Below.refl _ _⟩
  case round =>
    obtain ⟨j, hj, rfl, hr, hbr⟩ := hrel
    by_cases hlt : j < n
    · go_wp2_with (at_builtin; refine ap_one _ rfl (.tmp 12) (.tmp 18) 25 rfl B 5 i0 Tryz.underlying25 hi hz0 hz1 hz2 _ _ (u / 2 ^ (8 * j) % 256) rfl rfl (by exact hr) (by simp [lowB]; omega) (Nat.le_trans hB hbr.size) ?_; intro v2 w2 hown2 hbel2)
      go_roundw
      case rel => exact ⟨j + 1, by omega, by go_num, by rw [← lowB_step]; exact hown2, hbr.trans hbel2⟩
      case measure => simp [intOf]; omega
    · obtain rfl : j = n := by omega
      go_wp2
      go_ret
      exact ⟨_, rfl, hr, hbr⟩

def frameH (xs : List Int) : List Int := 197 :: lowB xs.length 3 ++ xs
def frameB (xs : List Int) : List Int := frameH xs ++ lowB (sumS (frameH xs)) 4

theorem frameH_isB {xs : List Int} (h : IsB xs) : IsB (frameH xs) := IsB.append (IsB.cons (by omega) (lowB_isB _ _)) h
theorem frameH_length (xs : List Int) : (frameH xs).length = xs.length + 4 := by simp [frameH, lowB]; omega
theorem frameB_length (xs : List Int) : (frameB xs).length = xs.length + 8 := by simp [frameB, frameH_length, lowB]

set_option maxRecDepth 100000 in
set_option maxHeartbeats 1000000 in
theorem frame_any (v : Value) (xs : List Int) (w : World) (hT : Tab w) (hv : Has w v xs) (hl : xs.length ≤ 1048576) (hB : IsB xs) :
    Calls Tryz.prog 106 #[v] w fun e w' => ∃ v', e = .returned v' ∧ Owns w' w.heap.size 5 v' (frameB xs) ∧ Below w.heap.size w w' := by
  obtain ⟨i0, hi, hz0, hz1, hz2⟩ := info_parts info8c
  obtain ⟨p, c, rfl, hc, hnone, hcell⟩ := id hv
  clear hnone hcell
  go_enter Tryz.func106, Tryz.ntmps106
  go_wp2_with (first
    | (at_make; refine wpList_make_own _ rfl _ _ 25 rfl w.heap.size 5 i0 (.int .u8 0) 1 Tryz.underlying25 hi hz0 hz1 _ _ _ (xs.length + 8) rfl rfl (by omega) (by rw [hz2]; omega) (by unfold maxLen; omega) (Nat.le_refl _) ?_; intro w0 hown0 hgrow0)
    | (at_builtin; refine ap_one _ rfl (.tmp 12) (.tmp 13) 25 rfl w.heap.size 5 i0 Tryz.underlying25 hi hz0 hz1 hz2 _ [] 197 rfl rfl (by exact hown0) (by simp) (by exact hgrow0.size) ?_; intro v1 w1 hown1 hbel1))
  have hb0 : Below w.heap.size w w1 := ((Below.refl w.heap.size w).grown hgrow0 (Nat.le_refl _) (fun k h => by cases h)).trans hbel1
  refine (appLow_any _ [197] _ 3 w.heap.size _ (by exact hown1) hb0.size (by simp) (by omega)).mono ?_
  rintro e w2 ⟨v2, rfl, ho2, hb2⟩
  go_wp2_with (first
    | (at_builtin; refine ap_slice _ rfl _ _ 25 rfl w.heap.size 5 i0 Tryz.underlying25 hi hz0 hz1 hz2 _ _ xs rfl (by exact hv.below (hb0.trans hb2) (Nat.le_refl _)) (by exact ho2) (by simp [lowB]) (by omega) (by exact (hb0.trans hb2).size) ?_; intro v3 w3 ho3 hb3))
  have hb : Below w.heap.size w w3 := (hb0.trans hb2).trans hb3
  have ho : Owns w3 w.heap.size 5 v3 (frameH xs) := ho3
  refine same_mono (sum_cod _ (frameH xs) _ (hT.below hb (Nat.le_refl _)) ho.has (by rw [frameH_length]; omega) (frameH_isB hB)) ?_
  go_wp2_with fail
  refine (appLow_any _ (frameH xs) _ 4 w.heap.size _ (by exact ho) hb.size (by rw [frameH_length]; omega) (by omega)).mono ?_
  rintro e w4 ⟨v4, rfl, ho4, hb4⟩
  go_wp2
  go_ret
  exact ⟨_, rfl, ho4, hb.trans hb4⟩

def slF (v lo : Value) : Sem Value := Instr.sliceAt 25 v (some lo) none none
theorem slF_exec (ρ : Operand → Value) (d : Option Tmp) (x y : Operand) (t : TypeId) (p : String) (af : Array Edge) (g : Option (Nat × Bool)) (w : World) : (execOp ρ { dst := d, op := .slice 25 x (some y) none none, type := t, pos := p, after := af, guard := g }).run Tryz.prog w = ((slF (ρ x) (ρ y)).run Tryz.prog w).andThen fun v w' => .ok (.value v) w' := by
  unfold execOp slF
  simp only [Sem.run_bind, Sem.run_pure, Option.map_some, Option.map_none]
theorem slF_execI (ro : Option Nat) (ρ : Operand → Value) (d : Option Tmp) (x y : Operand) (t : TypeId) (p : String) (af : Array Edge) (g : Option (Nat × Bool)) (w : World) : (Oper.semAt ro ρ { dst := d, op := .slice 25 x (some y) none none, type := t, pos := p, after := af, guard := g }).run Tryz.prog w = ((slF (ρ x) (ρ y)).run Tryz.prog w).andThen fun v w' => .ok (.value v) w' := by
  rw [Oper.semAt_eq _ _ _ (by intro c h; cases h)]
  exact slF_exec ρ d x y t p af g w
def cutV (p : Option Addr) (n c lo : Nat) : Value := if c = lo then .slice p 0 0 else .slice (p.map fun a => a.add lo) (n - lo) (c - lo)
set_option maxRecDepth 100000 in
theorem slF_run (w : World) (p : Option Addr) (n c lo : Nat) (h : lo ≤ n) (hc : n ≤ c) : (slF (.slice p n c) (.int .i64 (lo : Nat))).run Tryz.prog w = .ok (cutV p n c lo) w := by
  unfold slF cutV
  by_cases e : c = lo
  · have e2 : n = lo := by omega
    rw [if_pos e]
    subst e e2
    cases p <;> go_simp
  · rw [if_neg e]
    cases p <;> go_simp
theorem Has.cutV {w : World} {p : Option Addr} {n c : Nat} {xs : List Int} (h : Has w (.slice p n c) xs) (lo : Nat) (hlo : lo ≤ n) : Has w (cutV p n c lo) (xs.drop lo) := by
  obtain ⟨q, d, hv, hc, hnone, hcell⟩ := id h
  simp only [Value.slice.injEq] at hv
  obtain ⟨rfl, rfl, rfl⟩ := hv
  unfold Go.Proofs.YthlelcmifolnfaaGreatDoor.cutV
  split
  · rename_i e
    have : xs.drop lo = [] := List.drop_of_length_le (by omega)
    rw [this]
    exact Has.empty w p 0 (fun _ => rfl)
  · rename_i e
    cases p with
    | none => exact absurd (hnone rfl) (by omega)
    | some a =>
      rcases Nat.eq_zero_or_pos xs.length with hn | hn
      · obtain rfl : xs = [] := List.eq_nil_of_length_eq_zero hn
        obtain rfl : lo = 0 := by simpa using hlo
        exact Has.empty w _ _ (fun h => by cases h)
      · obtain ⟨b, o, e1, _, _⟩ := hcell hn
        cases e1
        have := h.cutAt lo (xs.length - lo) (by omega)
        rw [List.take_of_length_le (by simp)] at this
        show Has w (.slice (some ((⟨b, o, none⟩ : Addr).add lo)) _ _) _
        rw [Addr.add_lit]
        exact this
end Go.Proofs.YthlelcmifolnfaaGreatDoor
