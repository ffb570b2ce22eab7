import Derived.WalkKit
namespace Go.Proofs.YthlelcmifolnfaaGreatDoor
open Go.RowKit

def IsB (xs : List Int) : Prop := ∀ x ∈ xs, 0 ≤ x ∧ x ≤ 255

theorem IsB.getD {xs : List Int} (h : IsB xs) (j : Nat) : 0 ≤ xs.getD j 0 ∧ xs.getD j 0 ≤ 255 := by
  rw [List.getD_eq_getElem?_getD]
  cases hj : xs[j]? with
  | none => simp
  | some x => exact h x (List.mem_of_getElem? hj)
theorem IsB.nil : IsB [] := fun x h => by cases h
theorem IsB.append {xs ys : List Int} (h : IsB xs) (k : IsB ys) : IsB (xs ++ ys) := fun x hx => by
  rcases List.mem_append.1 hx with h1 | h1
  · exact h x h1
  · exact k x h1
theorem IsB.cons {x : Int} {xs : List Int} (h : 0 ≤ x ∧ x ≤ 255) (k : IsB xs) : IsB (x :: xs) := fun y hy => by
  rcases List.mem_cons.1 hy with rfl | h1
  · exact h
  · exact k y h1

theorem IsB.cutB {xs : List Int} (h : IsB xs) (lo m : Nat) : IsB ((xs.drop lo).take m) := fun x hx => h x (List.mem_of_mem_drop (List.mem_of_mem_take hx))
theorem IsB.takeB {xs : List Int} (h : IsB xs) (m : Nat) : IsB (xs.take m) := fun x hx => h x (List.mem_of_mem_take hx)

def nibs : List Int := [0, 274646895, 549293790, 820201905, 1098587580, 1361435347, 1640403810, 1905808397, 2197175160, 2460548119, 2722870694, 2987750089, 3280807620, 3553878443, 3811616794, 4084100981]
def nib (i : Int) : Int := nibs.getD i.toNat 0
def st1 (c : Int) : Int := bits BinOp.xor .u32 (c / 16) (nib (bits BinOp.and .u32 c 15))
def stB (c x : Int) : Int := st1 (st1 (bits BinOp.xor .u32 c x))
def crc (xs : List Int) : Int := xs.foldl stB 4294967295
def sumS (xs : List Int) : Int := bits BinOp.xor .u32 IntKind.u32.max (crc xs)

theorem crc_take (xs : List Int) (j : Nat) (h : j < xs.length) : crc (xs.take (j + 1)) = stB (crc (xs.take j)) (xs.getD j 0) := by
  unfold crc
  rw [List.take_succ_eq_append_getElem h, List.foldl_append]
  simp [List.getElem?_eq_getElem h]

theorem xor_bd (a b : Int) : 0 ≤ bits BinOp.xor .u32 a b ∧ bits BinOp.xor .u32 a b ≤ 4294967295 := ⟨bits_lo_u32 _ _ _, bits_hi_u32 _ _ _⟩
theorem st1_bd (c : Int) : 0 ≤ st1 c ∧ st1 c ≤ 4294967295 := xor_bd _ _
theorem stB_bd (c x : Int) : 0 ≤ stB c x ∧ stB c x ≤ 4294967295 := xor_bd _ _
theorem sumS_bd (xs : List Int) : 0 ≤ sumS xs ∧ sumS xs ≤ 4294967295 := xor_bd _ _
theorem crc_bd (xs : List Int) : 0 ≤ crc xs ∧ crc xs ≤ 4294967295 := by
  unfold crc
  rcases List.eq_nil_or_concat xs with rfl | ⟨ys, y, rfl⟩
  · simp
  · simp only [List.concat_eq_append, List.foldl_append, List.foldl_cons, List.foldl_nil]; exact stB_bd _ _

theorem and15 (c : Int) (h0 : 0 ≤ c) (h1 : c ≤ 4294967295) : 0 ≤ bits BinOp.and .u32 c 15 ∧ bits BinOp.and .u32 c 15 ≤ 15 := by
  have e : bits BinOp.and .u32 c 15 = c % 16 := bits_mask .u32 32 (by decide) (fun n h0 h1 => by rw [IntKind.wrap_u32]; omega) 4 (by decide) c h0 (by omega)
  rw [e]; omega

end Go.Proofs.YthlelcmifolnfaaGreatDoor
