/-
  Contracts: codec.Sum, appendLow, Frame.
-/
import Derived.Test.YtmlekbabofldoaaDoorW1
import Derived.Test.YtmlekbabofldoaaDoorCrc
namespace Go.Proofs.YtmlekbabofldoaaDoor
open Go.RowKit

/-- The table lies in its variable. -/
def Tab (w : World) : Prop := 0 < w.heap.size ∧ ∀ i : Nat, i < 16 → w.cell? ⟨0, i, none⟩ = some (.int .u32 (nibs.getD i 0))

theorem Tab.below {w w' : World} {B : Nat} (h : Tab w) (hb : Below B w w') (hB : w.heap.size ≤ B) : Tab w' :=
  ⟨Nat.lt_of_lt_of_le h.1 hb.size, fun i hi => (hb.cell (p := ⟨0, i, none⟩) (Nat.lt_of_lt_of_le h.1 hB)).trans (h.2 i hi)⟩

theorem Tab.at {w : World} (h : Tab w) (c : Int) (h0 : 0 ≤ c) (h1 : c ≤ 4294967295) : w.cell? ⟨0, (bits BinOp.and .u32 c 15).toNat, none⟩ = some (.int .u32 (nib (bits BinOp.and .u32 c 15))) :=
  h.2 _ (by have := and15 c h0 h1; omega)

set_option maxHeartbeats 400000 in
theorem sum_any (v : Value) (xs : List Int) (w : World) (hT : Tab w) (hv : Has w v xs) (hl : xs.length ≤ 1099511627776) (hB : IsB xs) :
    Calls Tryd.prog 13 #[v] w fun e w' => e = .returned (.int .u32 (sumS xs)) ∧ w' = w := by
  obtain ⟨p, c, rfl, hc, hnone, hcell⟩ := hv
  clear hnone
  go_enter Tryd.func13, Tryd.ntmps13
  go_wp2
  go_loop [3, 7] (fun s i => ∃ j : Nat, j ≤ xs.length ∧ i = .int .i64 j ∧ s = .int .u32 (crc (xs.take j))) (fun _ i => xs.length - (intOf i).toNat)
  case atStart => exact ⟨0, Nat.zero_le _, rfl, rfl⟩
  case round =>
    obtain ⟨j, hj, rfl, rfl⟩ := hrel
    by_cases hlt : j < xs.length
    · obtain ⟨b, o, rfl, _, hcl⟩ := hcell (by omega)
      have h1 := hcl j hlt
      have hb := hB.getD j
      have hs : Hid (crc (xs.take (j + 1)) = stB (crc (xs.take j)) (xs.getD j 0)) := crc_take xs j hlt
      have hcb := crc_bd (xs.take j)
      clear hcl hcell hB
      generalize crc (xs.take j) = c0 at *
      generalize xs.getD j 0 = x at *
      have g1 := hT.at (bits BinOp.xor .u32 c0 x) (xor_bd _ _).1 (xor_bd _ _).2
      have g2 := hT.at (st1 (bits BinOp.xor .u32 c0 x)) (st1_bd _).1 (st1_bd _).2
      have b1 := and15 (bits BinOp.xor .u32 c0 x) (xor_bd _ _).1 (xor_bd _ _).2
      have b2 := and15 (st1 (bits BinOp.xor .u32 c0 x)) (st1_bd _).1 (st1_bd _).2
      unfold st1 at g2 b2
      go_wp2
      go_round
      case rel => exact ⟨j + 1, by omega, by go_num, by rw [hs.out]; rfl⟩
      case measure => simp [intOf]; omega
    · obtain rfl : j = xs.length := by omega
      go_wp2
      go_ret
      exact ⟨rfl, rfl⟩

/-- The n lowest bytes of a number, the lowest first. -/
def lowB (u : Int) (n : Nat) : List Int := (List.range n).map fun i => u / 2 ^ (8 * i) % 256

theorem lowB_step (xs : List Int) (u : Int) (j : Nat) : (xs ++ lowB u j) ++ [u / 2 ^ (8 * j) % 256] = xs ++ lowB u (j + 1) := by
  simp [lowB, List.range_succ]
theorem lowB_length (u : Int) (n : Nat) : (lowB u n).length = n := by simp [lowB]
theorem lowB_isB (u : Int) (n : Nat) : IsB (lowB u n) := fun x hx => by
  obtain ⟨i, _, rfl⟩ := List.mem_map.1 hx
  omega

set_option maxHeartbeats 400000 in
theorem appLow_any (v : Value) (xs : List Int) (u : Int) (n : Nat) (B : Nat) (w : World) (hown : Owns w B 5 v xs) (hB : B ≤ w.heap.size) (hl : xs.length ≤ 1099511627000) (hn : n ≤ 4) :
    Calls Tryd.prog 49 #[v, .int .u32 u, .int .i64 n] w fun e w' => ∃ v', e = .returned v' ∧ Owns w' B 5 v' (xs ++ lowB u n) ∧ Below B w w' := by
  obtain ⟨i0, hi, hz0, hz1, hz2⟩ := info_parts info8
  go_enter Tryd.func49, Tryd.ntmps49
  go_wp2
  go_loopw [0, 9] (fun v i wr => ∃ j : Nat, j ≤ n ∧ i = .int .i64 j ∧ Owns wr B 5 v (xs ++ lowB u j) ∧ Below B w wr) (fun _ i _ => n - (intOf i).toNat)
  case atStart => exact ⟨0, Nat.zero_le _, rfl, by simpa [lowB] using hown, Below.refl _ _⟩
  case round =>
    obtain ⟨j, hj, rfl, hr, hbr⟩ := hrel
    by_cases hlt : j < n
    · go_wp2_with (at_builtin; refine ap_one _ rfl (.tmp 12) (.tmp 18) 22 rfl B 5 i0 Tryd.underlying22 hi hz0 hz1 hz2 _ _ (u / 2 ^ (8 * j) % 256) rfl rfl (by exact hr) (by simp [lowB]; omega) (Nat.le_trans hB hbr.size) ?_; intro v2 w2 hown2 hbel2)
      go_roundw
      case rel => exact ⟨j + 1, by omega, by go_num, by rw [← lowB_step]; exact hown2, hbr.trans hbel2⟩
      case measure => simp [intOf]; omega
    · obtain rfl : j = n := by omega
      go_wp2
      go_ret
      exact ⟨_, rfl, hr, hbr⟩

/-- A frame. -/
def frameH (xs : List Int) : List Int := 197 :: lowB xs.length 3 ++ xs
def frameB (xs : List Int) : List Int := frameH xs ++ lowB (sumS (frameH xs)) 4

theorem frameH_isB {xs : List Int} (h : IsB xs) : IsB (frameH xs) := IsB.append (IsB.cons (by omega) (lowB_isB _ _)) h
theorem frameH_length (xs : List Int) : (frameH xs).length = xs.length + 4 := by simp [frameH, lowB]; omega
theorem frameB_length (xs : List Int) : (frameB xs).length = xs.length + 8 := by simp [frameB, frameH_length, lowB]

set_option maxHeartbeats 400000 in
theorem frame_any (v : Value) (xs : List Int) (w : World) (hT : Tab w) (hv : Has w v xs) (hl : xs.length ≤ 1048576) (hB : IsB xs) :
    Calls Tryd.prog 16 #[v] w fun e w' => ∃ v', e = .returned v' ∧ Owns w' w.heap.size 5 v' (frameB xs) ∧ Below w.heap.size w w' := by
  obtain ⟨i0, hi, hz0, hz1, hz2⟩ := info_parts info8
  obtain ⟨p, c, rfl, hc, hnone, hcell⟩ := id hv
  clear hnone hcell
  go_enter Tryd.func16, Tryd.ntmps16
  go_wp2_with (first
    | (at_make; refine wpList_make_own _ rfl _ _ 22 rfl w.heap.size 5 i0 (.int .u8 0) 1 Tryd.underlying22 hi hz0 hz1 _ _ _ (xs.length + 8) rfl rfl (by omega) (by rw [hz2]; omega) (by unfold maxLen; omega) (Nat.le_refl _) ?_; intro w0 hown0 hgrow0)
    | (at_builtin; refine ap_one _ rfl (.tmp 12) (.tmp 13) 22 rfl w.heap.size 5 i0 Tryd.underlying22 hi hz0 hz1 hz2 _ [] 197 rfl rfl (by exact hown0) (by simp) (by exact hgrow0.size) ?_; intro v1 w1 hown1 hbel1))
  have hb0 : Below w.heap.size w w1 := ((Below.refl w.heap.size w).grown hgrow0 (Nat.le_refl _) (fun k h => by cases h)).trans hbel1
  refine (appLow_any _ [197] _ 3 w.heap.size _ (by exact hown1) hb0.size (by simp) (by omega)).mono ?_
  rintro e w2 ⟨v2, rfl, ho2, hb2⟩
  go_wp2_with (first
    | (at_builtin; refine ap_slice _ rfl _ _ 22 rfl w.heap.size 5 i0 Tryd.underlying22 hi hz0 hz1 hz2 _ _ xs rfl (by exact hv.below (hb0.trans hb2) (Nat.le_refl _)) (by exact ho2) (by simp [lowB]) (by omega) (by exact (hb0.trans hb2).size) ?_; intro v3 w3 ho3 hb3))
  have hb : Below w.heap.size w w3 := (hb0.trans hb2).trans hb3
  have ho : Owns w3 w.heap.size 5 v3 (frameH xs) := ho3
  refine same_mono (sum_any _ (frameH xs) _ (hT.below hb (Nat.le_refl _)) ho.has (by rw [frameH_length]; omega) (frameH_isB hB)) ?_
  go_wp2_with fail
  refine (appLow_any _ (frameH xs) _ 4 w.heap.size _ (by exact ho) hb.size (by rw [frameH_length]; omega) (by omega)).mono ?_
  rintro e w4 ⟨v4, rfl, ho4, hb4⟩
  go_wp2
  go_ret
  exact ⟨_, rfl, ho4, hb.trans hb4⟩

end Go.Proofs.YtmlekbabofldoaaDoor
