import Derived.Test.YthlghokgknkpaaaDoorW1To
import Derived.WalkKit
/-
  Contracts: codec.appendNumber, Put.
-/
namespace Go.Proofs.YthlghokgknkpaaaDoor
open Go.RowKit

theorem range_step (xs : List Int) (a : Int) (f : Nat → Int) (j : Nat) : (xs ++ a :: (List.range j).map f) ++ [f j] = xs ++ a :: (List.range (j + 1)).map f := by
  simp [List.range_succ]

set_option maxRecDepth 100000 in
set_option maxHeartbeats 1000000 in
theorem appNum_any (v : Value) (xs : List Int) (u : Int) (B : Nat) (w : World) (hown : Owns w B 5 v xs) (hB : B ≤ w.heap.size) (hl : xs.length ≤ 1099511627000) (h0 : 0 ≤ u) (h1 : u < 18446744073709551616) :
    Calls Tryd.prog 55 #[v, .int .u64 u] w fun e w' => ∃ v', e = .returned v' ∧ Owns w' B 5 v' (xs ++ numB u) ∧ Below B w w' := by
  obtain ⟨i0, hi, hz0, hz1, hz2⟩ := info_parts info8c
  have hk := more_le u.toNat
  unfold numB
  generalize hkk : more u.toNat = k at *
  have HK : Hid (more u.toNat = k) := hkk
  clear hkk
  go_enter Tryd.func55, Tryd.ntmps55
  go_wp2_with (first
    | (go_at_call 79; refine same_mono (tail_any _ _ (by omega) (by omega)) ?_; rw [HK.out])
    | (at_builtin; refine ap_one _ rfl (.tmp 13) (.tmp 21) 45 rfl B 5 i0 Tryd.underlying45 hi hz0 hz1 hz2 _ xs (fb u k) rfl rfl (by exact hown) (by omega) hB ?_; intro v1 w1 hown1 hbel1))
  go_loopw [0, 24] (fun v i wr => ∃ j : Nat, j ≤ k ∧ i = .int .i64 j ∧ Owns wr B 5 v (xs ++ fb u k :: (List.range j).map (bt u k)) ∧ Below B w wr) (fun _ i _ => k - (intOf i).toNat)
  case atStart => exact ⟨0, Nat.zero_le _, rfl, hown1, hbel1⟩
  case round =>
    obtain ⟨j, hj, rfl, hr, hbr⟩ := hrel
    by_cases hlt : j < k
    · go_wp2_with (at_builtin; refine ap_one _ rfl (.tmp 27) (.tmp 36) 45 rfl B 5 i0 Tryd.underlying45 hi hz0 hz1 hz2 _ _ (bt u k j) rfl rfl (by exact hr) (by simp; omega) (Nat.le_trans hB hbr.size) ?_; intro v2 w2 hown2 hbel2)
      go_roundw
      case rel => exact ⟨j + 1, by omega, by go_num, by rw [← range_step]; exact hown2, hbr.trans hbel2⟩
      case measure => simp [intOf]; omega
    · obtain rfl : j = k := by omega
      go_wp2
      go_ret
      exact ⟨_, rfl, hr, hbr⟩

set_option maxRecDepth 100000 in
set_option maxHeartbeats 1000000 in
theorem put_any (v : Value) (xs : List Int) (u : Int) (w : World) (hv : Has w v xs) (hl : xs.length ≤ 1099511620000) (h0 : 0 ≤ u) (h1 : u < 18446744073709551616) :
    Calls Tryd.prog 31 #[v, .int .u64 u] w fun e w' => ∃ v', e = .returned v' ∧ Owns w' w.heap.size 5 v' (xs ++ numB u) ∧ Below w.heap.size w w' := by
  go_enter Tryd.func31, Tryd.ntmps31
  go_wp2_with (first
    | (go_at_call 56; refine (withRoom_any _ xs _ _ hv (by omega) (by omega) (by omega)).mono ?_; rintro e w1 ⟨v1, rfl, ho1, hb1⟩)
    | (go_at_call 55; refine (appNum_any _ xs u _ _ ho1 hb1.size (by omega) h0 h1).mono ?_; rintro e w2 ⟨v2, rfl, ho2, hb2⟩))
  go_ret
  exact ⟨_, rfl, ho2, hb1.trans hb2⟩
end Go.Proofs.YthlghokgknkpaaaDoor

/-
  Plain mathematics: the sum of bytes, as the code reckons it, in the walk's own words. No program is named here.
-/
namespace Go.Proofs.YthlghokgknkpaaaDoor
open Go.RowKit

/-- All are bytes. -/
def IsB (xs : List Int) : Prop := ∀ x ∈ xs, 0 ≤ x ∧ x ≤ 255

theorem IsB.getD {xs : List Int} (h : IsB xs) (j : Nat) : 0 ≤ xs.getD j 0 ∧ xs.getD j 0 ≤ 255 := by
  rw [List.getD_eq_getElem?_getD]
  cases hj : xs[j]? with
  | none => simp
  | some x => exact h x (List.mem_of_getElem? hj)
theorem IsB.nil : IsB [] := fun x h => by cases h
theorem IsB.append {xs ys : List Int} (h : IsB xs) (k : IsB ys) : IsB (xs ++ ys) := fun x hx => by
  rcases List.mem_append.1 hx with h1 | h1
  · exact h x h1
  · exact k x h1
theorem IsB.cons {x : Int} {xs : List Int} (h : 0 ≤ x ∧ x ≤ 255) (k : IsB xs) : IsB (x :: xs) := fun y hy => by
  rcases List.mem_cons.1 hy with rfl | h1
  · exact h
  · exact k y h1

theorem IsB.cutB {xs : List Int} (h : IsB xs) (lo m : Nat) : IsB ((xs.drop lo).take m) := fun x hx => h x (List.mem_of_mem_drop (List.mem_of_mem_take hx))
theorem IsB.takeB {xs : List Int} (h : IsB xs) (m : Nat) : IsB (xs.take m) := fun x hx => h x (List.mem_of_mem_take hx)

def nibs : List Int := [0, 274646895, 549293790, 820201905, 1098587580, 1361435347, 1640403810, 1905808397, 2197175160, 2460548119, 2722870694, 2987750089, 3280807620, 3553878443, 3811616794, 4084100981]
def nib (i : Int) : Int := nibs.getD i.toNat 0
def st1 (c : Int) : Int := bits BinOp.xor .u32 (c / 16) (nib (bits BinOp.and .u32 c 15))
def stB (c x : Int) : Int := st1 (st1 (bits BinOp.xor .u32 c x))
def crc (xs : List Int) : Int := xs.foldl stB 4294967295
def sumS (xs : List Int) : Int := bits BinOp.xor .u32 IntKind.u32.max (crc xs)

theorem crc_take (xs : List Int) (j : Nat) (h : j < xs.length) : crc (xs.take (j + 1)) = stB (crc (xs.take j)) (xs.getD j 0) := by
  unfold crc
  rw [List.take_succ_eq_append_getElem h, List.foldl_append]
  simp [List.getElem?_eq_getElem h]

theorem xor_bd (a b : Int) : 0 ≤ bits BinOp.xor .u32 a b ∧ bits BinOp.xor .u32 a b ≤ 4294967295 := ⟨bits_lo_u32 _ _ _, bits_hi_u32 _ _ _⟩
theorem st1_bd (c : Int) : 0 ≤ st1 c ∧ st1 c ≤ 4294967295 := xor_bd _ _
theorem stB_bd (c x : Int) : 0 ≤ stB c x ∧ stB c x ≤ 4294967295 := xor_bd _ _
theorem sumS_bd (xs : List Int) : 0 ≤ sumS xs ∧ sumS xs ≤ 4294967295 := xor_bd _ _
theorem crc_bd (xs : List Int) : 0 ≤ crc xs ∧ crc xs ≤ 4294967295 := by
  unfold crc
  rcases List.eq_nil_or_concat xs with rfl | ⟨ys, y, rfl⟩
  · simp
  · simp only [List.concat_eq_append, List.foldl_append, List.foldl_cons, List.foldl_nil]; exact stB_bd _ _

theorem and15 (c : Int) (h0 : 0 ≤ c) (h1 : c ≤ 4294967295) : 0 ≤ bits BinOp.and .u32 c 15 ∧ bits BinOp.and .u32 c 15 ≤ 15 := by
  have e : bits BinOp.and .u32 c 15 = c % 16 := bits_mask .u32 32 (by decide) (fun n h0 h1 => by rw [IntKind.wrap_u32]; omega) 4 (by decide) c h0 (by omega)
  rw [e]; omega

end Go.Proofs.YthlghokgknkpaaaDoor

/-
  Contracts: math/bits.RotateLeft64 by one, Zig, Same, PutText.
-/
namespace Go.Proofs.YthlghokgknkpaaaDoor
open Go.RowKit

/-- A number of 64 bits, turned to the left by one: in the walk's own words. -/
def rotL (u : Int) : Int := bits BinOp.or .u64 (IntKind.u64.wrap (u * 2)) (u / 9223372036854775808)

set_option maxRecDepth 100000 in
set_option maxHeartbeats 1000000 in
theorem rotL_any (u : Int) (w : World) :
    Calls Tryd.prog 90 #[.int .u64 u, .int .i64 1] w fun e w' => e = .returned (.int .u64 (rotL u)) ∧ w' = w := by
  have e : IntKind.u64.wrap 1 = 1 := by decide
  have e2 : bits BinOp.and IntKind.u64 1 63 = 1 := by decide +kernel
  go_enter Tryd.func90, Tryd.ntmps90
  go_wp2
  go_ret
  exact ⟨rfl, rfl⟩

theorem ofBytes_inj {xs ys : List Int} (hx : IsB xs) (hy : IsB ys) (h2 : (xs.map fun n => UInt8.ofNat n.toNat) = ys.map fun n => UInt8.ofNat n.toNat) : xs = ys := by
  induction xs generalizing ys with
  | nil => cases ys with
    | nil => rfl
    | cons y ys => simp at h2
  | cons x xs ih => cases ys with
    | nil => simp at h2
    | cons y ys =>
      simp only [List.map_cons, List.cons.injEq] at h2
      have hx0 := hx x List.mem_cons_self
      have hy0 := hy y List.mem_cons_self
      have e : x = y := by
        have := congrArg UInt8.toNat h2.1
        simp at this
        omega
      rw [e, ih (fun a ha => hx a (List.mem_cons_of_mem _ ha)) (fun a ha => hy a (List.mem_cons_of_mem _ ha)) h2.2]

theorem strs_beq {xs ys : List Int} (hx : IsB xs) (hy : IsB ys) : ((strOfNums xs).toList == (strOfNums ys).toList) = (xs == ys) := by
  rw [ByteArray.toList_eq, ByteArray.toList_eq, strOfNums_data, strOfNums_data, Bool.eq_iff_iff]
  simp only [beq_iff_eq]
  exact ⟨ofBytes_inj hx hy, fun h => by rw [h]⟩

set_option maxRecDepth 100000 in
set_option maxHeartbeats 1000000 in
theorem same_any (v1 v2 : Value) (xs ys : List Int) (w : World) (h1 : Has w v1 xs) (h2 : Has w v2 ys) (hx : IsB xs) (hy : IsB ys) :
    Calls Tryd.prog 15 #[v1, v2] w fun e w' => e = .returned (.bool (xs == ys)) ∧ w' = w := by
  have c1 := h1.conv (P := Tryd.prog) 45 5 9 Tryd.underlying45 Tryd.underlying5 Tryd.underlying9
  have c2 := h2.conv (P := Tryd.prog) 45 5 9 Tryd.underlying45 Tryd.underlying5 Tryd.underlying9
  go_enter Tryd.func15, Tryd.ntmps15
  go_wp2
  go_ret
  exact ⟨congrArg (fun b => Ending.returned (Value.bool b)) (strs_beq hx hy), rfl⟩

/-- A text's bytes. -/
def strB (s : ByteArray) : List Int := s.data.toList.map fun b => (b.toNat : Int)
theorem strB_length (s : ByteArray) : (strB s).length = s.size := by unfold strB; rw [List.length_map, Array.length_toList]; rfl
theorem strB_isB (s : ByteArray) : IsB (strB s) := fun x hx => by
  obtain ⟨b, _, rfl⟩ := List.mem_map.1 hx
  have := b.toNat_lt
  omega
def textB (s : ByteArray) : List Int := numB s.size ++ strB s

set_option maxRecDepth 100000 in
set_option maxHeartbeats 1000000 in
theorem putText_any (v : Value) (xs : List Int) (s : ByteArray) (w : World) (hv : Has w v xs) (hl : xs.length ≤ 1073741824) (hs : s.size ≤ 1073741824) :
    Calls Tryd.prog 32 #[v, .string s] w fun e w' => ∃ v', e = .returned v' ∧ Owns w' w.heap.size 5 v' (xs ++ textB s) ∧ Below w.heap.size w w' := by
  obtain ⟨i0, hi, hz0, hz1, hz2⟩ := info_parts info8c
  have hnl := numB_le s.size
  go_enter Tryd.func32, Tryd.ntmps32
  go_wp2_with (first
    | (go_at_call 56; refine (withRoom_any _ xs _ _ hv (by omega) (by omega) (by omega)).mono ?_; rintro e w1 ⟨v1, rfl, ho1, hb1⟩)
    | (go_at_call 55; refine (appNum_any _ xs (s.size : Int) _ _ ho1 hb1.size (by omega) (by omega) (by omega)).mono ?_; rintro e w2 ⟨v2, rfl, ho2, hb2⟩)
    | (at_builtin; refine ap_text _ rfl (.tmp 14) (.tmp 15) 45 9 rfl w.heap.size 5 i0 Tryd.underlying45 Tryd.underlying9 hi hz0 hz1 hz2 _ _ s rfl rfl (by exact ho2) (by rw [List.length_append]; omega) (by omega) (by exact (hb1.trans hb2).size) ?_; intro v3 w3 ho3 hb3))
  go_ret
  exact ⟨_, rfl, by rw [textB, ← List.append_assoc]; exact ho3, (hb1.trans hb2).trans hb3⟩

end Go.Proofs.YthlghokgknkpaaaDoor
