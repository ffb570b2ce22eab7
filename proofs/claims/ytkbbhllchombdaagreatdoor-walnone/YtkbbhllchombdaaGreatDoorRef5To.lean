import Derived.Test.YtkbbhllchombdaaGreatDoorWaXTo
import Derived.Test.YtkbbhllchombdaaGreatDoorFrm0
import Derived.BigQuiet
import Derived.WalkSmall
import Derived.Deep.RegionLaw
namespace Go.Proofs.YtkbbhllchombdaaGreatDoor
open Go.RowKit
theorem frameB_isB {xs : List Int} (h : IsB xs) : IsB (frameB xs) := IsB.append (frameH_isB h) (lowB_isB _ _)

def ofT (xs : List Int) : Nat → Int
  | 0 => 0
  | j + 1 => bits BinOp.or .u64 (ofT xs j) (IntKind.u64.wrap (xs.getD j 0 * 2 ^ (8 * j)))

theorem or_low64 (i : Nat) (x y : Int) (hx0 : 0 ≤ x) (hx1 : x < 2 ^ i) (hy0 : 0 ≤ y) (hy : y % 2 ^ i = 0) (hi : i ≤ 32) (hy1 : y < 4294967296) : bits BinOp.or .u64 x y = x + y := by
  have hp : (2 : Int) ^ i ≤ 2 ^ 32 := by exact_mod_cast Nat.pow_le_pow_right (n := 2) (by decide) hi
  exact bits_join_low .u64 64 (by decide) (fun n h0 h1 => by rw [IntKind.wrap_u64]; omega) i x y hx0 hx1 (by omega) hy0 hy (by omega)
theorem ofT_low (xs : List Int) (h : IsB xs) : ∀ j, j ≤ 4 → ofT xs j = lowT xs j := by
  have h0 := h.getD 0
  have h1 := h.getD 1
  have h2 := h.getD 2
  have h3 := h.getD 3
  have e1 : ofT xs 1 = xs.getD 0 0 := by
    show bits BinOp.or .u64 0 (IntKind.u64.wrap (xs.getD 0 0 * 2 ^ 0)) = _
    rw [IntKind.wrap_u64, or_low64 0 _ _ (by omega) (by omega) (by omega) (by omega) (by omega) (by omega)]
    omega
  have e2 : ofT xs 2 = xs.getD 0 0 + xs.getD 1 0 * 256 := by
    show bits BinOp.or .u64 (ofT xs 1) (IntKind.u64.wrap (xs.getD 1 0 * 2 ^ 8)) = _
    rw [e1, IntKind.wrap_u64, or_low64 8 _ _ (by omega) (by omega) (by omega) (by omega) (by omega) (by omega)]
    omega
  have e3 : ofT xs 3 = xs.getD 0 0 + xs.getD 1 0 * 256 + xs.getD 2 0 * 65536 := by
    show bits BinOp.or .u64 (ofT xs 2) (IntKind.u64.wrap (xs.getD 2 0 * 2 ^ 16)) = _
    rw [e2, IntKind.wrap_u64, or_low64 16 _ _ (by omega) (by omega) (by omega) (by omega) (by omega) (by omega)]
    omega
  have e4 : ofT xs 4 = xs.getD 0 0 + xs.getD 1 0 * 256 + xs.getD 2 0 * 65536 + xs.getD 3 0 * 16777216 := by
    show bits BinOp.or .u64 (ofT xs 3) (IntKind.u64.wrap (xs.getD 3 0 * 2 ^ 24)) = _
    rw [e3, IntKind.wrap_u64, or_low64 24 _ _ (by omega) (by omega) (by omega) (by omega) (by omega) (by omega)]
    omega
  intro j hj
  match j, hj with
  | 0, _ => rfl
  | 1, _ => rw [e1, lowT1 xs h]
  | 2, _ => rw [e2, lowT2 xs h]
  | 3, _ => rw [e3, lowT3 xs h]
  | 4, _ => rw [e4, lowT4 xs h]

set_option maxRecDepth 100000 in
set_option maxHeartbeats 1000000 in
theorem rof_any (v : Value) (xs : List Int) (w : World) (hv : Has w v xs) (hl : xs.length ≤ 4) (hB : IsB xs) :
    Calls Tryz.prog 95 #[v] w fun e w' => e = .returned (.int .u64 (lowS xs)) ∧ w' = w := by
  obtain ⟨p, c, rfl, hc, hnone, hcell⟩ := hv
  clear hnone
  have HT : ∀ j, Hid (ofT xs (j + 1) = bits BinOp.or .u64 (ofT xs j) (IntKind.u64.wrap (xs.getD j 0 * 2 ^ (8 * j)))) := fun _ => rfl
  have HL : Hid (lowS xs = ofT xs xs.length) := by rw [Hid, lowS, ofT_low xs hB _ hl]
  have H0 : Hid (ofT xs 0 = 0) := rfl
  generalize ofT xs = G at *
  go_enter Tryz.func95, Tryz.ntmps95
  go_wp2
  go_loop [3, 8] (fun s i => ∃ j : Nat, j ≤ xs.length ∧ i = .int .i64 j ∧ s = .int .u64 (G j)) (fun _ i => xs.length - (intOf i).toNat)
  case atStart => exact ⟨0, Nat.zero_le _, rfl, by rw [H0.out]⟩
  case round =>
    obtain ⟨j, hj, rfl, rfl⟩ := hrel
    have H1 := HT j
    clear HT
    by_cases hlt : j < xs.length
    · obtain ⟨b, o, rfl, _, hcl⟩ := hcell (by omega)
      have h1 := hcl j hlt
      have hbb := hB.getD j
      clear hcl hcell hB
      generalize xs.getD j 0 = x at *
      go_wp2
      go_round
      case rel => exact ⟨j + 1, by omega, by go_num, by rw [H1.out]⟩
      case measure => simp [intOf]; omega
    · obtain rfl : j = xs.length := by omega
      go_wp2
      go_ret
      rw [HL.out]
      exact ⟨rfl, rfl⟩

def frameF (xs : List Int) : List Int := if 1048576 < xs.length then [] else frameB xs

set_option maxRecDepth 100000 in
set_option maxHeartbeats 1000000 in
theorem frame_all (v : Value) (xs : List Int) (w : World) (hT : Tab w) (hv : Has w v xs) (hl : xs.length ≤ 1099511627776) (hB : IsB xs) :
    Calls Tryz.prog 44 #[v] w fun e w' => ∃ v', e = .returned v' ∧ Has w' v' (frameF xs) ∧ Below w.heap.size w w' := by
  by_cases hbig : 1048576 < xs.length
  · have HF : Hid (frameF xs = []) := by rw [Hid, frameF, if_pos hbig]
    obtain ⟨p, c, rfl, hc, hnone, hcell⟩ := id hv
    clear hnone hcell
    go_enter Tryz.func44, Tryz.ntmps44
    go_wp2
    go_ret
    exact ⟨_, rfl, by rw [HF.out]; exact Has.nil _, Below.refl _ _⟩
  · refine (frame_any v xs w hT hv (by omega) hB).mono ?_
    rintro e w' ⟨v', rfl, ho, hb⟩
    exact ⟨_, rfl, by rw [frameF, if_neg hbig]; exact ho.has, hb⟩

end Go.Proofs.YtkbbhllchombdaaGreatDoor
