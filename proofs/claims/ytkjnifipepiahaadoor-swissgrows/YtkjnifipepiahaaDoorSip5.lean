/-
  Plain mathematics: a round has a way back. No program is named here.
-/
import Derived.Test.YtkjnifipepiahaaDoorSip1
import Derived.Laws.Bits64b
namespace Go.Proofs.YtkjnifipepiahaaDoor
open Go.RowKit

/-- A word. -/
def Wd (x : Int) : Prop := 0 ≤ x ∧ x < 18446744073709551616

theorem Wd.nat {x : Int} (h : Wd x) : ∃ n : Nat, x = n ∧ n < 18446744073709551616 := by
  obtain ⟨n, rfl⟩ := Int.eq_ofNat_of_zero_le h.1
  exact ⟨n, rfl, by have := h.2; omega⟩
theorem Wd.of {n : Nat} (h : n < 18446744073709551616) : Wd (n : Int) := ⟨by omega, by omega⟩

theorem wd_add (x y : Int) : Wd (addI x y) := by unfold addI Wd; rw [IntKind.wrap_u64]; omega
theorem wd_sub (x y : Int) : Wd (subI x y) := by unfold subI Wd; rw [IntKind.wrap_u64]; omega
theorem wd_xor {x y : Int} (hx : Wd x) (hy : Wd y) : Wd (xorI x y) := by
  obtain ⟨n, rfl, hn⟩ := hx.nat
  obtain ⟨m, rfl, hm⟩ := hy.nat
  unfold xorI
  rw [bits_xor_u64_nat _ _ hn hm]
  exact Wd.of (Nat.xor_lt_two_pow (n := 64) hn hm)

theorem xor_back {x y : Int} (hx : Wd x) (hy : Wd y) : xorI (xorI x y) y = x := by
  obtain ⟨n, rfl, hn⟩ := hx.nat
  obtain ⟨m, rfl, hm⟩ := hy.nat
  unfold xorI
  rw [bits_xor_u64_nat _ _ hn hm, bits_xor_u64_nat _ _ (Nat.xor_lt_two_pow (n := 64) hn hm) hm, Nat.xor_assoc, Nat.xor_self, Nat.xor_zero]
theorem sub_add {x : Int} (y : Int) (hx : Wd x) : subI (addI x y) y = x := by
  unfold subI addI; rw [IntKind.wrap_u64, IntKind.wrap_u64]; have := hx.1; have := hx.2; omega
theorem add_sub {x : Int} (y : Int) (hx : Wd x) : addI (subI x y) y = x := by
  unfold subI addI; rw [IntKind.wrap_u64, IntKind.wrap_u64]; have := hx.1; have := hx.2; omega

def turnN (p q x : Nat) : Nat := p * (x % q) + x / q

theorem turn_back (p q x : Nat) (hx : x < p * q) : turnN q p (turnN p q x) = x := by
  unfold turnN
  have hp : 0 < p := Nat.pos_of_ne_zero (fun h => by subst h; simp at hx)
  have hd : x / q < p := (Nat.div_lt_iff_lt_mul (Nat.pos_of_ne_zero (fun h => by subst h; simp at hx))).2 hx
  rw [Nat.mul_add_mod, Nat.mod_eq_of_lt hd, Nat.mul_add_div hp, Nat.div_eq_of_lt hd, Nat.add_zero]
  exact Nat.div_add_mod x q

theorem pq (r : Nat) (hr : r < 64) : 2 ^ r * 2 ^ (64 - r) = 18446744073709551616 := by
  rw [← Nat.pow_add, show r + (64 - r) = 64 by omega]

theorem high (x r : Nat) (hr : r < 64) : IntKind.u64.wrap ((x : Int) * 2 ^ r) = ((2 ^ r * (x % 2 ^ (64 - r)) : Nat) : Int) := by
  rw [IntKind.wrap_u64, show ((x : Int) * 2 ^ r) = ((2 ^ r * x : Nat) : Int) by rw [Int.natCast_mul, Int.natCast_pow, Int.mul_comm]; rfl]
  rw [← Nat.mul_mod_mul_left, pq r hr]
  exact (Int.natCast_emod _ _).symm
theorem low (x r : Nat) : (x : Int) / 2 ^ r = ((x / 2 ^ r : Nat) : Int) := by
  rw [Int.natCast_ediv, Int.natCast_pow]; rfl

theorem low_lt (x r : Nat) (hx : x < 18446744073709551616) (hr : r < 64) : x / 2 ^ (64 - r) < 2 ^ r :=
  (Nat.div_lt_iff_lt_mul (Nat.two_pow_pos _)).2 (by rw [pq r hr]; exact hx)

theorem turn_lt (x r : Nat) (hx : x < 18446744073709551616) (hr : r < 64) : turnN (2 ^ r) (2 ^ (64 - r)) x < 18446744073709551616 := by
  have h1 := low_lt x r hx hr
  have h2 : x % 2 ^ (64 - r) + 1 ≤ 2 ^ (64 - r) := Nat.mod_lt _ (Nat.two_pow_pos _)
  have h3 := Nat.mul_le_mul_left (2 ^ r) h2
  rw [pq r hr, Nat.mul_add, Nat.mul_one] at h3
  unfold turnN
  omega

theorem rot_nat (x r : Nat) (hx : x < 18446744073709551616) (hr : r < 64) : rotI x r = ((turnN (2 ^ r) (2 ^ (64 - r)) x : Nat) : Int) := by
  have h1 := low_lt x r hx hr
  have h4 := turn_lt x r hx hr
  unfold rotI
  rw [high x r hr, low, bits_or_u64_nat _ _ (Nat.lt_of_le_of_lt (Nat.le_add_right _ _) h4) (Nat.lt_of_le_of_lt (Nat.div_le_self _ _) hx), ← Nat.two_pow_add_eq_or_of_lt h1]
  rfl
theorem back_nat (x r : Nat) (hx : x < 18446744073709551616) (hr0 : 0 < r) (hr : r < 64) : backI x r = ((turnN (2 ^ (64 - r)) (2 ^ r) x : Nat) : Int) := by
  have e : 64 - (64 - r) = r := by omega
  have h1 := low_lt x (64 - r) hx (by omega)
  have h4 := turn_lt x (64 - r) hx (by omega)
  have h5 := high x (64 - r) (by omega)
  rw [e] at h1 h4 h5
  unfold backI
  rw [h5, low, bits_or_u64_nat _ _ (Nat.lt_of_le_of_lt (Nat.div_le_self _ _) hx) (Nat.lt_of_le_of_lt (Nat.le_add_right _ _) h4), Nat.or_comm, ← Nat.two_pow_add_eq_or_of_lt h1]
  rfl

theorem wd_rot {x : Int} (hx : Wd x) (r : Nat) (hr : r < 64) : Wd (rotI x r) := by
  obtain ⟨n, rfl, hn⟩ := hx.nat
  rw [rot_nat n r hn hr]; exact Wd.of (turn_lt n r hn hr)
theorem wd_back {x : Int} (hx : Wd x) (r : Nat) (hr0 : 0 < r) (hr : r < 64) : Wd (backI x r) := by
  obtain ⟨n, rfl, hn⟩ := hx.nat
  have h4 := turn_lt n (64 - r) hn (by omega)
  rw [show 64 - (64 - r) = r by omega] at h4
  rw [back_nat n r hn hr0 hr]; exact Wd.of h4

theorem back_rot {x : Int} (hx : Wd x) (r : Nat) (hr0 : 0 < r) (hr : r < 64) : backI (rotI x r) r = x := by
  obtain ⟨n, rfl, hn⟩ := hx.nat
  rw [rot_nat n r hn hr, back_nat _ r (turn_lt n r hn hr) hr0 hr, turn_back _ _ _ (by rw [pq r hr]; exact hn)]
theorem rot_back {x : Int} (hx : Wd x) (r : Nat) (hr0 : 0 < r) (hr : r < 64) : rotI (backI x r) r = x := by
  obtain ⟨n, rfl, hn⟩ := hx.nat
  have h4 := turn_lt n (64 - r) hn (by omega)
  rw [show 64 - (64 - r) = r by omega] at h4
  rw [back_nat n r hn hr0 hr, rot_nat _ r h4 hr, turn_back _ _ _ (by rw [Nat.mul_comm, pq r hr]; exact hn)]

/-- Four words, each in its bounds. -/
def V4.ok (v : V4) : Prop := Wd v.a ∧ Wd v.b ∧ Wd v.c ∧ Wd v.d

theorem undo_round (v : V4) (h : v.ok) : undoI (roundI v) = v := by
  obtain ⟨a, b, c, d⟩ := v
  obtain ⟨ha, hb, hc, hd⟩ := h
  have a1 := wd_add a b
  have b1 := wd_xor (wd_rot hb 13 (by omega)) a1
  have a2 := wd_rot a1 32 (by omega)
  have c1 := wd_add c d
  have d1 := wd_xor (wd_rot hd 16 (by omega)) c1
  have a3 := wd_add (rotI (addI a b) 32) (xorI (rotI d 16) (addI c d))
  have c2 := wd_add (addI c d) (xorI (rotI b 13) (addI a b))
  dsimp only at ha hb hc hd
  simp only [undoI, roundI]
  rw [back_rot c2 32 (by omega) (by omega), xor_back (wd_rot b1 17 (by omega)) c2, back_rot b1 17 (by omega) (by omega), sub_add _ c1,
    xor_back (wd_rot d1 21 (by omega)) a3, back_rot d1 21 (by omega) (by omega), sub_add _ a2, xor_back (wd_rot hd 16 (by omega)) c1, back_rot hd 16 (by omega) (by omega),
    sub_add _ hc, back_rot a1 32 (by omega) (by omega), xor_back (wd_rot hb 13 (by omega)) a1, back_rot hb 13 (by omega) (by omega), sub_add _ ha]

theorem round_undo (v : V4) (h : v.ok) : roundI (undoI v) = v := by
  obtain ⟨a, b, c, d⟩ := v
  obtain ⟨ha, hb, hc, hd⟩ := h
  dsimp only at ha hb hc hd
  have c1 := wd_back hc 32 (by omega) (by omega)
  have xb := wd_xor hb c1
  have b1 := wd_back xb 17 (by omega) (by omega)
  have xd := wd_xor hd ha
  have d1 := wd_back xd 21 (by omega) (by omega)
  have c2 := wd_sub (backI c 32) (backI (xorI b (backI c 32)) 17)
  have a1 := wd_sub a (backI (xorI d a) 21)
  have xd2 := wd_xor d1 c2
  have d2 := wd_back xd2 16 (by omega) (by omega)
  have a2 := wd_back a1 32 (by omega) (by omega)
  have xb2 := wd_xor b1 a2
  have b2 := wd_back xb2 13 (by omega) (by omega)
  simp only [undoI, roundI]
  rw [add_sub _ a2, rot_back xb2 13 (by omega) (by omega), xor_back b1 a2, rot_back a1 32 (by omega) (by omega), add_sub _ c2, rot_back xd2 16 (by omega) (by omega), xor_back d1 c2,
    add_sub _ ha, rot_back xd 21 (by omega) (by omega), xor_back hd ha, add_sub _ c1, rot_back xb 17 (by omega) (by omega), xor_back hb c1, rot_back hc 32 (by omega) (by omega)]
end Go.Proofs.YtkjnifipepiahaaDoor
