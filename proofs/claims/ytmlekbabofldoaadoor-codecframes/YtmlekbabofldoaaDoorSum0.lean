/-
  Plain mathematics: the sum bit by bit is the sum by halves of bytes.
-/
import Derived.Test.YtmlekbabofldoaaDoorTell0
namespace Go.Proofs.YtmlekbabofldoaaDoor
open Go.RowKit

/-- One bit, as the document has it. -/
def rB (c x : Int) : Nat → Int
  | 0 => c
  | k + 1 => if bits BinOp.and .u32 (bits BinOp.xor .u32 (rB c x k) (x / 2 ^ k)) 1 = 1 then bits BinOp.xor .u32 (rB c x k / 2) 2197175160 else rB c x k / 2

/-- The same, over natural numbers, without the byte. -/
def rN (s : Nat) : Nat := s / 2 ^^^ (if s % 2 = 1 then 2197175160 else 0)

theorem xor_half (a b : Nat) : (a ^^^ b) / 2 = a / 2 ^^^ b / 2 := by
  have e : ∀ x : Nat, x / 2 = x >>> 1 := fun x => by rw [Nat.shiftRight_eq_div_pow]
  rw [e, e, e, Nat.shiftRight_xor_distrib]
theorem xor_odd (a b : Nat) : (a ^^^ b) % 2 = (a % 2 + b % 2) % 2 := by
  have h := Nat.testBit_xor a b 0
  simp only [Nat.testBit_zero] at h
  rcases Nat.mod_two_eq_zero_or_one a with ha | ha <;> rcases Nat.mod_two_eq_zero_or_one b with hb | hb <;> rcases Nat.mod_two_eq_zero_or_one (a ^^^ b) with hc | hc <;> simp_all
theorem rN_xor (a b : Nat) : rN (a ^^^ b) = rN a ^^^ rN b := by
  unfold rN
  rw [xor_half, xor_odd]
  rcases Nat.mod_two_eq_zero_or_one a with ha | ha <;> rcases Nat.mod_two_eq_zero_or_one b with hb | hb <;> simp only [ha, hb]
  · simp
  · simp [Nat.xor_assoc]
  · simp only [if_true]
    simp only [Nat.zero_ne_one, if_false, Nat.xor_zero]
    rw [Nat.xor_assoc, Nat.xor_assoc, Nat.xor_comm (b / 2)]
  · simp only [Nat.reduceAdd, Nat.reduceMod, if_true]
    simp only [Nat.zero_ne_one, if_false, Nat.xor_zero]
    rw [show a / 2 ^^^ 2197175160 ^^^ (b / 2 ^^^ 2197175160) = a / 2 ^^^ b / 2 ^^^ (2197175160 ^^^ 2197175160) from by
      rw [Nat.xor_assoc, Nat.xor_assoc, ← Nat.xor_assoc 2197175160, Nat.xor_comm 2197175160 (b / 2), Nat.xor_assoc]]
    simp
theorem rN_even (m : Nat) : rN (2 * m) = m := by
  unfold rN
  simp

theorem xor_split : ∀ (k t i : Nat), i < 2 ^ k → (2 ^ k * t) ^^^ i = 2 ^ k * t + i
  | 0, t, i, h => by
    have : i = 0 := by simpa using h
    subst this; simp
  | k + 1, t, i, h => by
    have ih := xor_split k t (i / 2) (by rw [Nat.pow_succ] at h; omega)
    have h1 := xor_half (2 ^ (k + 1) * t) i
    have h2 := xor_odd (2 ^ (k + 1) * t) i
    have e : 2 ^ (k + 1) * t = 2 * (2 ^ k * t) := by rw [Nat.pow_succ, Nat.mul_comm (2 ^ k) 2, Nat.mul_assoc]
    rw [e] at h1 h2 ⊢
    rw [Nat.mul_div_cancel_left _ (by decide : 0 < 2), ih] at h1
    omega

theorem rN4_small : ∀ i : Fin 16, rN (rN (rN (rN i.val))) = (nib i.val).toNat := by decide +kernel
theorem rN4 (s : Nat) (h : s < 4294967296) : ((rN (rN (rN (rN s))) : Nat) : Int) = st1 s := by
  rw [st1_nat s h]
  have e : s = (2 ^ 4 * (s / 16)) ^^^ (s % 16) := by rw [xor_split 4 (s / 16) (s % 16) (by omega)]; omega
  conv => lhs; rw [e]
  rw [rN_xor, rN_xor, rN_xor, rN_xor]
  have e2 : rN (rN (rN (rN (2 ^ 4 * (s / 16))))) = s / 16 := by
    rw [show 2 ^ 4 * (s / 16) = 2 * (2 * (2 * (2 * (s / 16)))) by omega, rN_even, rN_even, rN_even, rN_even]
  rw [e2]
  have := rN4_small ⟨s % 16, by omega⟩
  simp only at this
  rw [this]

theorem rN_lt (s : Nat) (h : s < 4294967296) : rN s < 4294967296 := by
  unfold rN
  refine Nat.xor_lt_two_pow (n := 32) (by omega) ?_
  split <;> omega

def iter (f : Nat → Nat) : Nat → Nat → Nat
  | 0, s => s
  | k + 1, s => f (iter f k s)
theorem iter_lt (s : Nat) (h : s < 4294967296) : ∀ k, iter rN k s < 4294967296
  | 0 => h
  | k + 1 => rN_lt _ (iter_lt s h k)

theorem and1 (y : Int) (h0 : 0 ≤ y) (h1 : y ≤ 4294967295) : bits BinOp.and .u32 y 1 = y % 2 :=
  bits_mask .u32 32 (by decide) (fun n h0 h1 => by rw [IntKind.wrap_u32]; omega) 1 (by decide) y h0 (by omega)

theorem rB_nat (c x : Nat) (hc : c < 4294967296) (hx : x < 256) : ∀ k, rB c x k = ((iter rN k (c ^^^ x) ^^^ (x / 2 ^ k) : Nat) : Int)
  | 0 => by simp [rB, iter, Nat.xor_assoc]
  | k + 1 => by
    have hcx : c ^^^ x < 4294967296 := Nat.xor_lt_two_pow (n := 32) (by omega) (by omega)
    have hi := iter_lt (c ^^^ x) hcx k
    have ih := rB_nat c x hc hx k
    have hxk : x / 2 ^ k < 256 := Nat.lt_of_le_of_lt (Nat.div_le_self _ _) hx
    unfold rB
    rw [ih]
    show _ = ((rN (iter rN k (c ^^^ x)) ^^^ (x / 2 ^ (k + 1)) : Nat) : Int)
    have hdiv : x / 2 ^ (k + 1) = x / 2 ^ k / 2 := by rw [Nat.pow_succ, Nat.div_div_eq_div_mul]
    have hcast : ((x : Int) / 2 ^ k) = ((x / 2 ^ k : Nat) : Int) := by simp
    rw [hdiv, hcast]
    generalize iter rN k (c ^^^ x) = s at *
    generalize x / 2 ^ k = y at *
    have hsy : s ^^^ y < 4294967296 := Nat.xor_lt_two_pow (n := 32) (by omega) (by omega)
    have e1 : (s ^^^ y) ^^^ y = s := by simp [Nat.xor_assoc]
    rw [xor_u32 _ _ hsy (by omega), e1, and1 _ (by omega) (by omega)]
    have e2 : (((s ^^^ y : Nat) : Int) / 2) = ((s / 2 ^^^ y / 2 : Nat) : Int) := by rw [← xor_half]; omega
    have hh : s / 2 ^^^ y / 2 < 4294967296 := by rw [← xor_half]; omega
    rw [e2]
    unfold rN
    rcases Nat.mod_two_eq_zero_or_one s with h | h
    · rw [if_neg (by omega), if_neg (by omega), Nat.xor_zero]
    · rw [if_pos (by omega), if_pos h, show (2197175160 : Int) = ((2197175160 : Nat) : Int) from rfl, xor_u32 _ _ hh (by omega)]
      rw [Nat.xor_assoc, Nat.xor_assoc, Nat.xor_comm (y / 2)]

/-- Eight bits are two halves. -/
theorem rB_eight (c x : Int) (hc : 0 ≤ c ∧ c ≤ 4294967295) (hx : 0 ≤ x ∧ x ≤ 255) : rB c x 8 = stB c x := by
  obtain ⟨n, rfl⟩ := Int.eq_ofNat_of_zero_le hc.1
  obtain ⟨m, rfl⟩ := Int.eq_ofNat_of_zero_le hx.1
  have hn : n < 4294967296 := by omega
  have hm : m < 256 := by omega
  have hnm : n ^^^ m < 4294967296 := Nat.xor_lt_two_pow (n := 32) (by omega) (by omega)
  rw [rB_nat n m hn hm 8, Nat.div_eq_of_lt (show m < 2 ^ 8 by omega), Nat.xor_zero]
  unfold stB
  rw [xor_u32 n m hn (by omega), ← rN4 _ hnm]
  exact (rN4 _ (rN_lt _ (rN_lt _ (rN_lt _ (rN_lt _ hnm)))))

end Go.Proofs.YtmlekbabofldoaaDoor
