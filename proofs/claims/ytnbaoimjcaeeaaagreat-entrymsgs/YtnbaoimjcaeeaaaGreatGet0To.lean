import Derived.Test.YtnbaoimjcaeeaaaGreatCrcTo
import Derived.Test.YtnbaoimjcaeeaaaGreatW1To
/-
  Contracts: math/bits.RotateLeft64 by one, Zig, Same, PutText.
-/
namespace Go.Proofs.YtnbaoimjcaeeaaaGreat
open Go.RowKit

/-- A number of 64 bits, turned to the left by one: in the walk's own words. -/
def rotL (u : Int) : Int := bits BinOp.or .u64 (IntKind.u64.wrap (u * 2)) (u / 9223372036854775808)

set_option maxRecDepth 100000 in
set_option maxHeartbeats 1000000 in
theorem rotL_any (u : Int) (w : World) :
    Calls Tryz.prog 120 #[.int .u64 u, .int .i64 1] w fun e w' => e = .returned (.int .u64 (rotL u)) ∧ w' = w := by
  have e : IntKind.u64.wrap 1 = 1 := by decide
  have e2 : bits BinOp.and IntKind.u64 1 63 = 1 := by decide +kernel
  go_enter Tryz.func120, Tryz.ntmps120
  go_wp2
  go_ret
  exact ⟨rfl, rfl⟩

def zigS (n : Int) : Int := rotL (IntKind.u64.wrap n)
set_option maxRecDepth 100000 in
set_option maxHeartbeats 1000000 in
theorem zig_any (n : Int) (w : World) :
    Calls Tryz.prog 87 #[.int .i64 n] w fun e w' => e = .returned (.int .u64 (zigS n)) ∧ w' = w := by
  go_enter Tryz.func87, Tryz.ntmps87
  go_wp2_with fail
  refine same_mono (rotL_any _ _) ?_
  go_wp2
  go_ret
  exact ⟨rfl, rfl⟩

theorem ofBytes_inj {xs ys : List Int} (hx : IsB xs) (hy : IsB ys) (h2 : (xs.map fun n => UInt8.ofNat n.toNat) = ys.map fun n => UInt8.ofNat n.toNat) : xs = ys := by
  induction xs generalizing ys with
  | nil => cases ys with
    | nil => rfl
    | cons y ys => simp at h2
  | cons x xs ih => cases ys with
    | nil => simp at h2
    | cons y ys =>
      simp only [List.map_cons, List.cons.injEq] at h2
      have hx0 := hx x List.mem_cons_self
      have hy0 := hy y List.mem_cons_self
      have e : x = y := by
        have := congrArg UInt8.toNat h2.1
        simp at this
        omega
      rw [e, ih (fun a ha => hx a (List.mem_cons_of_mem _ ha)) (fun a ha => hy a (List.mem_cons_of_mem _ ha)) h2.2]

theorem strs_beq {xs ys : List Int} (hx : IsB xs) (hy : IsB ys) : ((strOfNums xs).toList == (strOfNums ys).toList) = (xs == ys) := by
  rw [ByteArray.toList_eq, ByteArray.toList_eq, strOfNums_data, strOfNums_data, Bool.eq_iff_iff]
  simp only [beq_iff_eq]
  exact ⟨ofBytes_inj hx hy, fun h => by rw [h]⟩

set_option maxRecDepth 100000 in
set_option maxHeartbeats 1000000 in
theorem same_any (v1 v2 : Value) (xs ys : List Int) (w : World) (h1 : Has w v1 xs) (h2 : Has w v2 ys) (hx : IsB xs) (hy : IsB ys) :
    Calls Tryz.prog 19 #[v1, v2] w fun e w' => e = .returned (.bool (xs == ys)) ∧ w' = w := by
  have c1 := h1.conv (P := Tryz.prog) 22 5 9 Tryz.underlying22 Tryz.underlying5 Tryz.underlying9
  have c2 := h2.conv (P := Tryz.prog) 22 5 9 Tryz.underlying22 Tryz.underlying5 Tryz.underlying9
  go_enter Tryz.func19, Tryz.ntmps19
  go_wp2
  go_ret
  exact ⟨congrArg (fun b => Ending.returned (Value.bool b)) (strs_beq hx hy), rfl⟩

/-- A text's bytes. -/
def strB (s : ByteArray) : List Int := s.data.toList.map fun b => (b.toNat : Int)
theorem strB_length (s : ByteArray) : (strB s).length = s.size := by unfold strB; rw [List.length_map, Array.length_toList]; rfl
theorem strB_isB (s : ByteArray) : IsB (strB s) := fun x hx => by
  obtain ⟨b, _, rfl⟩ := List.mem_map.1 hx
  have := b.toNat_lt
  omega
def textB (s : ByteArray) : List Int := numB s.size ++ strB s

set_option maxRecDepth 100000 in
set_option maxHeartbeats 1000000 in
theorem putText_any (v : Value) (xs : List Int) (s : ByteArray) (w : World) (hv : Has w v xs) (hl : xs.length ≤ 1073741824) (hs : s.size ≤ 1073741824) :
    Calls Tryz.prog 121 #[v, .string s] w fun e w' => ∃ v', e = .returned v' ∧ Owns w' w.heap.size 5 v' (xs ++ textB s) ∧ Below w.heap.size w w' := by
  obtain ⟨i0, hi, hz0, hz1, hz2⟩ := info_parts info8c
  have hnl := numB_le s.size
  go_enter Tryz.func121, Tryz.ntmps121
  go_wp2_with (first
    | (go_at_call 85; refine (withRoom_any _ xs _ _ hv (by omega) (by omega) (by omega)).mono ?_; rintro e w1 ⟨v1, rfl, ho1, hb1⟩)
    | (go_at_call 119; refine (appNum_any _ xs (s.size : Int) _ _ ho1 hb1.size (by omega) (by omega) (by omega)).mono ?_; rintro e w2 ⟨v2, rfl, ho2, hb2⟩)
    | (at_builtin; refine ap_text _ rfl (.tmp 14) (.tmp 15) 22 9 rfl w.heap.size 5 i0 Tryz.underlying22 Tryz.underlying9 hi hz0 hz1 hz2 _ _ s rfl rfl (by exact ho2) (by rw [List.length_append]; omega) (by omega) (by exact (hb1.trans hb2).size) ?_; intro v3 w3 ho3 hb3))
  go_ret
  exact ⟨_, rfl, by rw [textB, ← List.append_assoc]; exact ho3, (hb1.trans hb2).trans hb3⟩

end Go.Proofs.YtnbaoimjcaeeaaaGreat

/-
  Plain mathematics: the number that bytes begin with, as the code reckons it, in the walk's own words. No program is named here.
-/
namespace Go.Proofs.YtnbaoimjcaeeaaaGreat
open Go.RowKit

/-- How many bytes follow a first byte. -/
def lead (x : Int) : Nat := 8 - Lib.bitLen (bits BinOp.xor .u8 IntKind.u8.max x).toNat
def g0 (x : Int) (k : Nat) : Int := bits BinOp.and .u8 x (127 / 2 ^ k)
def gs (u x : Int) : Int := bits BinOp.or .u64 (IntKind.u64.wrap (u * 256)) x
def gacc (xs : List Int) (k j : Nat) : Int := ((xs.drop 1).take j).foldl gs (g0 (xs.getD 0 0) k)
/-- The number that bytes begin with, and how many bytes it has: 0, 0: none. -/
def getS (xs : List Int) : Int × Nat :=
  if xs.length ≤ lead (xs.getD 0 0) then (0, 0)
  else if lead (xs.getD 0 0) = more (gacc xs (lead (xs.getD 0 0)) (lead (xs.getD 0 0))).toNat then (gacc xs (lead (xs.getD 0 0)) (lead (xs.getD 0 0)), lead (xs.getD 0 0) + 1)
  else (0, 0)

theorem lead_le (x : Int) : lead x ≤ 8 := by unfold lead; omega
theorem lead_len (x : Int) : (8 : Int) - (Lib.bitLen (bits BinOp.xor .u8 IntKind.u8.max x).toNat : Int) = (lead x : Int) := by
  have h0 := bits_lo_u8 BinOp.xor IntKind.u8.max x
  have h1 := bits_hi_u8 BinOp.xor IntKind.u8.max x
  have := Lib.bitLen_le8' _ h0 h1
  unfold lead
  omega
theorem g0_bd (x : Int) (k : Nat) : 0 ≤ g0 x k ∧ g0 x k ≤ 255 := ⟨bits_lo_u8 _ _ _, bits_hi_u8 _ _ _⟩
theorem gs_bd (u x : Int) : 0 ≤ gs u x ∧ gs u x ≤ 18446744073709551615 := ⟨bits_lo_u64 _ _ _, bits_hi_u64 _ _ _⟩
theorem gacc_bd (xs : List Int) (k j : Nat) : 0 ≤ gacc xs k j ∧ gacc xs k j ≤ 18446744073709551615 := by
  unfold gacc
  rcases List.eq_nil_or_concat ((xs.drop 1).take j) with h | ⟨ys, y, h⟩
  · rw [h]; have := g0_bd (xs.getD 0 0) k; simp only [List.foldl_nil]; omega
  · rw [h]; simp only [List.concat_eq_append, List.foldl_append, List.foldl_cons, List.foldl_nil]; exact gs_bd _ _
theorem gacc_zero (xs : List Int) (k : Nat) : gacc xs k 0 = g0 (xs.getD 0 0) k := by simp [gacc]
theorem gacc_succ (xs : List Int) (k j : Nat) (h : j + 1 < xs.length) : gacc xs k (j + 1) = gs (gacc xs k j) (xs.getD (j + 1) 0) := by
  unfold gacc
  have hj : j < (xs.drop 1).length := by simp; omega
  rw [List.take_succ_eq_append_getElem hj, List.foldl_append]
  simp [List.getElem?_eq_getElem (show j + 1 < xs.length by omega)]
theorem getS_bd (xs : List Int) : 0 ≤ (getS xs).1 ∧ (getS xs).1 ≤ 18446744073709551615 ∧ (getS xs).2 ≤ xs.length ∧ (getS xs).2 ≤ 9 := by
  unfold getS
  have := gacc_bd xs (lead (xs.getD 0 0)) (lead (xs.getD 0 0))
  have := lead_le (xs.getD 0 0)
  split
  · simp
  · split
    · simp only; omega
    · simp
theorem getS_nil : getS [] = (0, 0) := by simp [getS]

/-- The text that bytes begin with; the yes or no. -/
def getTextS (xs : List Int) : List Int × Nat :=
  if (getS xs).2 = 0 ∨ (xs.length : Int) - (getS xs).2 < (getS xs).1 then ([], 0) else ((xs.drop (getS xs).2).take (getS xs).1.toNat, (getS xs).2 + (getS xs).1.toNat)
def getBoolS (xs : List Int) : Bool × Nat :=
  if xs.length = 0 ∨ (xs.getD 0 0 ≠ 84 ∧ xs.getD 0 0 ≠ 70) then (false, 0) else (xs.getD 0 0 == 84, 1)

theorem getTextS_bd (xs : List Int) : (getTextS xs).2 ≤ xs.length ∧ (getTextS xs).1.length ≤ xs.length := by
  unfold getTextS
  have := getS_bd xs
  split
  · simp
  · simp only [List.length_take, List.length_drop]; omega
theorem getBoolS_bd (xs : List Int) : (getBoolS xs).2 ≤ xs.length := by
  unfold getBoolS
  split
  · simp
  · simp only; omega
theorem IsB.cut {xs : List Int} (h : IsB xs) (lo m : Nat) : IsB ((xs.drop lo).take m) := fun x hx => h x (List.mem_of_mem_drop (List.mem_of_mem_take hx))

end Go.Proofs.YtnbaoimjcaeeaaaGreat
