/-
  Contracts: math/bits.Len64, codec.tailBytes, withRoom, appendNumber, Put.
-/
import Derived.Test.YtnbaoimjcaeeaaaChecked
import Derived.Test.YtnbaoimjcaeeaaaBase
import Derived.Test.YtnbaoimjcaeeaaaNum
namespace Go.Proofs.Ytnbaoimjcaeeaaa
open Go.RowKit

theorem info8c : (Try.prog.info? 5).map (fun i => (i.zero, i.size, i.bytes)) = some (some (.int .u8 0), 1, 1) := by kernel_rfl

theorem ret_int {k : IntKind} {a b : Int} (h : a = b) : Ending.returned (.int k a) = .returned (.int k b) := by rw [h]

theorem len_way (u j : Int) (n : Nat) (hj : j.toNat < Lib.len8tab.size) (hn : n ≤ 56) (hx : Lib.bitLen u.toNat = n + Lib.bitLen j.toNat) :
    wrap64 ((n : Int) + wrap64 ((Lib.len8tab[j.toNat]'hj).toNat : Int)) = (Lib.bitLen u.toNat : Int) := by
  have hi : j.toNat < 256 := by rw [Lib.len8tab_size] at hj; exact hj
  have hb := Lib.bitLen_le8 ⟨j.toNat, hi⟩
  simp only at hb
  rw [len8tab_at _ hj, hx, IntWalk.wrap64_in (Lib.bitLen j.toNat : Int) ⟨by omega, by omega⟩, IntWalk.wrap64_in _ ⟨by omega, by omega⟩]
  omega
theorem len_way0 (u : Int) (hj : u.toNat < Lib.len8tab.size) :
    wrap64 (wrap64 ((Lib.len8tab[u.toNat]'hj).toNat : Int)) = (Lib.bitLen u.toNat : Int) := by
  have := len_way u u 0 hj (by omega) (by omega)
  rw [← this]
  congr 1
  simp

set_option maxRecDepth 100000 in
set_option maxHeartbeats 1000000 in
set_option maxRecDepth 10000 in
theorem len64_any (u : Int) (w : World) (h0 : 0 ≤ u) (h1 : u < 18446744073709551616) :
    Calls Try.prog 129 #[.int .u64 u] w fun e w' => e = .returned (.int .i64 (Lib.bitLen u.toNat)) ∧ w' = w := by
  have hsz := Lib.len8tab_size
  go_enter Try.func129, Try.ntmps129
  go_wp2
  · go_ret
    refine ⟨ret_int (len_way u (u / 4294967296 / 65536 / 256) 56 _ (by omega) ?_), rfl⟩
    rw [show (u / 4294967296 / 65536 / 256).toNat = u.toNat / 72057594037927936 by omega]; exact Lib.bitLen_shift56 u.toNat (by omega) (by omega)
  · go_ret
    refine ⟨ret_int (len_way u (u / 4294967296 / 65536) 48 _ (by omega) ?_), rfl⟩
    rw [show (u / 4294967296 / 65536).toNat = u.toNat / 281474976710656 by omega]; exact Lib.bitLen_shift48 u.toNat (by omega) (by omega)
  · go_ret
    refine ⟨ret_int (len_way u (u / 4294967296 / 256) 40 _ (by omega) ?_), rfl⟩
    rw [show (u / 4294967296 / 256).toNat = u.toNat / 1099511627776 by omega]; exact Lib.bitLen_shift40 u.toNat (by omega) (by omega)
  · go_ret
    refine ⟨ret_int (len_way u (u / 4294967296) 32 _ (by omega) ?_), rfl⟩
    rw [show (u / 4294967296).toNat = u.toNat / 4294967296 by omega]; exact Lib.bitLen_shift32 u.toNat (by omega) (by omega)
  · go_ret
    refine ⟨ret_int (len_way u (u / 65536 / 256) 24 _ (by omega) ?_), rfl⟩
    rw [show (u / 65536 / 256).toNat = u.toNat / 16777216 by omega]; exact Lib.bitLen_shift24 u.toNat (by omega) (by omega)
  · go_ret
    refine ⟨ret_int (len_way u (u / 65536) 16 _ (by omega) ?_), rfl⟩
    rw [show (u / 65536).toNat = u.toNat / 65536 by omega]; exact Lib.bitLen_shift16 u.toNat (by omega) (by omega)
  · go_ret
    refine ⟨ret_int (len_way u (u / 256) 8 _ (by omega) ?_), rfl⟩
    rw [show (u / 256).toNat = u.toNat / 256 by omega]; exact Lib.bitLen_shift8 u.toNat (by omega) (by omega)
  · go_ret
    exact ⟨ret_int (len_way0 u _), rfl⟩

set_option maxRecDepth 100000 in
set_option maxHeartbeats 1000000 in
theorem tail_any (u : Int) (w : World) (h0 : 0 ≤ u) (h1 : u < 18446744073709551616) :
    Calls Try.prog 126 #[.int .u64 u] w fun e w' => e = .returned (.int .i64 (more u.toNat : Nat)) ∧ w' = w := by
  have hb := or_one_bounds u h0 h1
  have hbl := bitLen_bounds (bits BinOp.or .u64 u 1).toNat (by omega) (by omega)
  have HM : Hid (min (((Lib.bitLen (bits BinOp.or .u64 u 1).toNat : Int) - 1) / 7) 8 = (more u.toNat : Int)) := more_of_bits u h0 h1
  go_enter Try.func126, Try.ntmps126
  go_wp2_with (go_at_call 129; refine (len64_any _ _ (by omega) (by omega)).mono ?_; rintro e w' ⟨rfl, rfl⟩)
  all_goals
    go_ret
    refine ⟨ret_int ?_, rfl⟩
    have := HM.out
    omega

set_option maxRecDepth 100000 in
set_option maxHeartbeats 1000000 in
theorem withRoom_any (v : Value) (xs : List Int) (m : Int) (w : World) (hv : Has w v xs) (hl : xs.length ≤ 1099511627776) (hm0 : 0 ≤ m) (hm1 : m ≤ 1099511627776) :
    Calls Try.prog 87 #[v, .int .i64 m] w fun e w' => ∃ v', e = .returned v' ∧ Owns w' w.heap.size 5 v' xs ∧ Below w.heap.size w w' := by
  obtain ⟨i0, hi, hz0, hz1, hz2⟩ := info_parts info8c
  obtain ⟨p, c, rfl, hc, hnone, hcell⟩ := id hv
  obtain ⟨M, rfl⟩ := Int.eq_ofNat_of_zero_le hm0
  clear hnone hcell
  go_enter Try.func87, Try.ntmps87
  go_wp2_with (first
    | (at_make; refine wpList_make_own _ rfl _ _ 34 rfl w.heap.size 5 i0 (.int .u8 0) 1 Try.underlying34 hi hz0 hz1 _ _ _ (xs.length + M) rfl rfl (by omega) (by rw [hz2]; omega) (by unfold maxLen; omega) (Nat.le_refl _) ?_; intro w0 hown0 hgrow0)
    | (at_builtin; refine ap_slice _ rfl _ _ 34 rfl w.heap.size 5 i0 Try.underlying34 hi hz0 hz1 hz2 _ [] xs rfl (by exact hv.below ((Below.refl w.heap.size w).grown hgrow0 (Nat.le_refl _) (fun k h => by cases h)) (Nat.le_refl _)) (by exact hown0) (by simp) hl (by exact hgrow0.size) ?_; intro v1 w1 hown1 hbel1))
  go_ret
  exact ⟨_, rfl, by simpa using hown1, ((Below.refl w.heap.size w).grown hgrow0 (Nat.le_refl _) (fun k h => by cases h)).trans hbel1⟩
end Go.Proofs.Ytnbaoimjcaeeaaa
