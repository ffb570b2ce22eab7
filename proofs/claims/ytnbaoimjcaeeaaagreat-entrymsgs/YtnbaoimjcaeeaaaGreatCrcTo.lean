import Derived.Test.YtnbaoimjcaeeaaaGreatW1To
import Derived.WalkKit
/-
  Contracts: codec.appendNumber, Put.
-/
namespace Go.Proofs.YtnbaoimjcaeeaaaGreat
open Go.RowKit

theorem range_step (xs : List Int) (a : Int) (f : Nat → Int) (j : Nat) : (xs ++ a :: (List.range j).map f) ++ [f j] = xs ++ a :: (List.range (j + 1)).map f := by
  simp [List.range_succ]

set_option maxRecDepth 100000 in
set_option maxHeartbeats 1000000 in
theorem appNum_any (v : Value) (xs : List Int) (u : Int) (B : Nat) (w : World) (hown : Owns w B 5 v xs) (hB : B ≤ w.heap.size) (hl : xs.length ≤ 1099511627000) (h0 : 0 ≤ u) (h1 : u < 18446744073709551616) :
    Calls Tryz.prog 119 #[v, .int .u64 u] w fun e w' => ∃ v', e = .returned v' ∧ Owns w' B 5 v' (xs ++ numB u) ∧ Below B w w' := by
  obtain ⟨i0, hi, hz0, hz1, hz2⟩ := info_parts info8c
  have hk := more_le u.toNat
  unfold numB
  generalize hkk : more u.toNat = k at *
  have HK : Hid (more u.toNat = k) := hkk
  clear hkk
  go_enter Tryz.func119, Tryz.ntmps119
  go_wp2_with (first
    | (go_at_call 142; refine same_mono (tail_any _ _ (by omega) (by omega)) ?_; rw [HK.out])
    | (at_builtin; refine ap_one _ rfl (.tmp 13) (.tmp 21) 22 rfl B 5 i0 Tryz.underlying22 hi hz0 hz1 hz2 _ xs (fb u k) rfl rfl (by exact hown) (by omega) hB ?_; intro v1 w1 hown1 hbel1))
  go_loopw [0, 24] (fun v i wr => ∃ j : Nat, j ≤ k ∧ i = .int .i64 j ∧ Owns wr B 5 v (xs ++ fb u k :: (List.range j).map (bt u k)) ∧ Below B w wr) (fun _ i _ => k - (intOf i).toNat)
  case atStart => exact ⟨0, Nat.zero_le _, rfl, hown1, hbel1⟩
  case round =>
    obtain ⟨j, hj, rfl, hr, hbr⟩ := hrel
    by_cases hlt : j < k
    · go_wp2_with (at_builtin; refine ap_one _ rfl (.tmp 27) (.tmp 36) 22 rfl B 5 i0 Tryz.underlying22 hi hz0 hz1 hz2 _ _ (bt u k j) rfl rfl (by exact hr) (by simp; omega) (Nat.le_trans hB hbr.size) ?_; intro v2 w2 hown2 hbel2)
      go_roundw
      case rel => exact ⟨j + 1, by omega, by go_num, by rw [← range_step]; exact hown2, hbr.trans hbel2⟩
      case measure => simp [intOf]; omega
    · obtain rfl : j = k := by omega
      go_wp2
      go_ret
      exact ⟨_, rfl, hr, hbr⟩

set_option maxRecDepth 100000 in
set_option maxHeartbeats 1000000 in
theorem put_any (v : Value) (xs : List Int) (u : Int) (w : World) (hv : Has w v xs) (hl : xs.length ≤ 1099511620000) (h0 : 0 ≤ u) (h1 : u < 18446744073709551616) :
    Calls Tryz.prog 86 #[v, .int .u64 u] w fun e w' => ∃ v', e = .returned v' ∧ Owns w' w.heap.size 5 v' (xs ++ numB u) ∧ Below w.heap.size w w' := by
  go_enter Tryz.func86, Tryz.ntmps86
  go_wp2_with (first
    | (go_at_call 85; refine (withRoom_any _ xs _ _ hv (by omega) (by omega) (by omega)).mono ?_; rintro e w1 ⟨v1, rfl, ho1, hb1⟩)
    | (go_at_call 119; refine (appNum_any _ xs u _ _ ho1 hb1.size (by omega) h0 h1).mono ?_; rintro e w2 ⟨v2, rfl, ho2, hb2⟩))
  go_ret
  exact ⟨_, rfl, ho2, hb1.trans hb2⟩
end Go.Proofs.YtnbaoimjcaeeaaaGreat

/-
  Plain mathematics: the sum of bytes, as the code reckons it, in the walk's own words. No program is named here.
-/
namespace Go.Proofs.YtnbaoimjcaeeaaaGreat
open Go.RowKit

/-- All are bytes. -/
def IsB (xs : List Int) : Prop := ∀ x ∈ xs, 0 ≤ x ∧ x ≤ 255

theorem IsB.getD {xs : List Int} (h : IsB xs) (j : Nat) : 0 ≤ xs.getD j 0 ∧ xs.getD j 0 ≤ 255 := by
  rw [List.getD_eq_getElem?_getD]
  cases hj : xs[j]? with
  | none => simp
  | some x => exact h x (List.mem_of_getElem? hj)
theorem IsB.nil : IsB [] := fun x h => by cases h
theorem IsB.append {xs ys : List Int} (h : IsB xs) (k : IsB ys) : IsB (xs ++ ys) := fun x hx => by
  rcases List.mem_append.1 hx with h1 | h1
  · exact h x h1
  · exact k x h1
theorem IsB.cons {x : Int} {xs : List Int} (h : 0 ≤ x ∧ x ≤ 255) (k : IsB xs) : IsB (x :: xs) := fun y hy => by
  rcases List.mem_cons.1 hy with rfl | h1
  · exact h
  · exact k y h1

theorem IsB.cutB {xs : List Int} (h : IsB xs) (lo m : Nat) : IsB ((xs.drop lo).take m) := fun x hx => h x (List.mem_of_mem_drop (List.mem_of_mem_take hx))
theorem IsB.takeB {xs : List Int} (h : IsB xs) (m : Nat) : IsB (xs.take m) := fun x hx => h x (List.mem_of_mem_take hx)

def nibs : List Int := [0, 274646895, 549293790, 820201905, 1098587580, 1361435347, 1640403810, 1905808397, 2197175160, 2460548119, 2722870694, 2987750089, 3280807620, 3553878443, 3811616794, 4084100981]
def nib (i : Int) : Int := nibs.getD i.toNat 0
def st1 (c : Int) : Int := bits BinOp.xor .u32 (c / 16) (nib (bits BinOp.and .u32 c 15))
def stB (c x : Int) : Int := st1 (st1 (bits BinOp.xor .u32 c x))
def crc (xs : List Int) : Int := xs.foldl stB 4294967295
def sumS (xs : List Int) : Int := bits BinOp.xor .u32 IntKind.u32.max (crc xs)

theorem crc_take (xs : List Int) (j : Nat) (h : j < xs.length) : crc (xs.take (j + 1)) = stB (crc (xs.take j)) (xs.getD j 0) := by
  unfold crc
  rw [List.take_succ_eq_append_getElem h, List.foldl_append]
  simp [List.getElem?_eq_getElem h]

theorem xor_bd (a b : Int) : 0 ≤ bits BinOp.xor .u32 a b ∧ bits BinOp.xor .u32 a b ≤ 4294967295 := ⟨bits_lo_u32 _ _ _, bits_hi_u32 _ _ _⟩
theorem st1_bd (c : Int) : 0 ≤ st1 c ∧ st1 c ≤ 4294967295 := xor_bd _ _
theorem stB_bd (c x : Int) : 0 ≤ stB c x ∧ stB c x ≤ 4294967295 := xor_bd _ _
theorem sumS_bd (xs : List Int) : 0 ≤ sumS xs ∧ sumS xs ≤ 4294967295 := xor_bd _ _
theorem crc_bd (xs : List Int) : 0 ≤ crc xs ∧ crc xs ≤ 4294967295 := by
  unfold crc
  rcases List.eq_nil_or_concat xs with rfl | ⟨ys, y, rfl⟩
  · simp
  · simp only [List.concat_eq_append, List.foldl_append, List.foldl_cons, List.foldl_nil]; exact stB_bd _ _

theorem and15 (c : Int) (h0 : 0 ≤ c) (h1 : c ≤ 4294967295) : 0 ≤ bits BinOp.and .u32 c 15 ∧ bits BinOp.and .u32 c 15 ≤ 15 := by
  have e : bits BinOp.and .u32 c 15 = c % 16 := bits_mask .u32 32 (by decide) (fun n h0 h1 => by rw [IntKind.wrap_u32]; omega) 4 (by decide) c h0 (by omega)
  rw [e]; omega

end Go.Proofs.YtnbaoimjcaeeaaaGreat
