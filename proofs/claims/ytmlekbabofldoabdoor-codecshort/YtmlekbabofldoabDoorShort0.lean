/-
  Plain mathematics: how long a number is; its beginnings, and what is longer than need be, are none. No program is named here.
-/
import Derived.Test.YtmlekbabofldoabDoorBack0
namespace Go.Proofs.YtmlekbabofldoabDoor
open Go.RowKit

/-- What is left of a number behind i + 1 steps of seven bits. -/
def sevens (u : Int) (i : Nat) : Int := u / 2 ^ (7 * (i + 1))
theorem sevens_step (u : Int) (i : Nat) : sevens u (i + 1) = sevens u i / 128 := by
  unfold sevens
  rw [show 7 * (i + 1 + 1) = 7 * (i + 1) + 7 by omega, Int.pow_add, Int.ediv_ediv_of_nonneg (Int.le_of_lt (Int.pow_pos (by decide)))]
  rfl
theorem sevens_zero (u : Int) : sevens u 0 = u / 128 := rfl
theorem sevens_pos (u : Nat) (i : Nat) (hu : u < 18446744073709551616) (h : i < more u) : 0 < sevens u i := by
  unfold sevens
  have hlo : 2 ^ (7 * (i + 1)) ≤ u := by
    have h1 : more u = 0 ∨ 2 ^ (7 * more u) ≤ u := by
      unfold more
      repeat' split
      all_goals simp
      all_goals omega
    rcases h1 with h1 | h1
    · omega
    · exact Nat.le_trans (Nat.pow_le_pow_right (by decide) (by omega)) h1
  have : 1 ≤ u / 2 ^ (7 * (i + 1)) := (Nat.le_div_iff_mul_le (Nat.two_pow_pos _)).2 (by omega)
  have e : ((u : Int) / 2 ^ (7 * (i + 1))) = ((u / 2 ^ (7 * (i + 1)) : Nat) : Int) := by simp
  rw [e]
  omega
theorem sevens_end (u : Nat) (hu : u < 18446744073709551616) (h : more u < 8) : sevens u (more u) = 0 := by
  unfold sevens
  have h1 := (more_lt u hu).1 h
  have e : ((u : Int) / 2 ^ (7 * (more u + 1))) = ((u / 2 ^ (7 * (more u + 1)) : Nat) : Int) := by simp
  rw [e, Nat.div_eq_of_lt h1]
  rfl
theorem sevens_bd (u : Nat) (i : Nat) (hu : u < 18446744073709551616) : 0 ≤ sevens u i ∧ sevens u i ≤ 18446744073709551615 := by
  unfold sevens
  have e : ((u : Int) / 2 ^ (7 * (i + 1))) = ((u / 2 ^ (7 * (i + 1)) : Nat) : Int) := by simp
  rw [e]
  have := Nat.div_le_self u (2 ^ (7 * (i + 1)))
  generalize u / 2 ^ (7 * (i + 1)) = t at *
  omega

/-- A beginning of a number's bytes is none. -/
theorem getS_early (u : Int) (h0 : 0 ≤ u) (h1 : u < 18446744073709551616) (i : Nat) (h : i ≤ more u.toNat) : getS ((numB u).take i) = (0, 0) := by
  obtain ⟨n, rfl⟩ := Int.eq_ofNat_of_zero_le h0
  have hn : n < 18446744073709551616 := by omega
  simp only [Int.toNat_natCast] at h
  unfold getS
  rcases Nat.eq_zero_or_pos i with rfl | hi
  · simp
  · have e0 : ((numB (n : Int)).take i).getD 0 0 = fb n (more n) := by
      obtain ⟨j, rfl⟩ : ∃ j, i = j + 1 := ⟨i - 1, by omega⟩
      simp [numB, numK]
    rw [e0, (first_byte n hn).1, if_pos]
    simp [numB_length]
    omega

/-- Nine bytes for a number that needs fewer. -/
def wideB (u : Int) (i : Nat) : List Int := 255 :: (List.range 8).map fun p => if p < 8 - i then 0 else bt u 8 p
theorem wide_zero (u : Int) : wideB u 0 = [255, 0, 0, 0, 0, 0, 0, 0, 0] := by simp [wideB, List.range_succ]
theorem wide_step (u : Int) : ∀ i, i < 8 → (wideB u i).set (8 - i) (u / 2 ^ (8 * i) % 256) = wideB u (i + 1)
  | 0, _ => by simp [wideB, List.range_succ, bt]
  | 1, _ => by simp [wideB, List.range_succ, bt]
  | 2, _ => by simp [wideB, List.range_succ, bt]
  | 3, _ => by simp [wideB, List.range_succ, bt]
  | 4, _ => by simp [wideB, List.range_succ, bt]
  | 5, _ => by simp [wideB, List.range_succ, bt]
  | 6, _ => by simp [wideB, List.range_succ, bt]
  | 7, _ => by simp [wideB, List.range_succ, bt]
  | n + 8, h => by omega
theorem wide_length (u : Int) (i : Nat) : (wideB u i).length = 9 := by simp [wideB]
theorem wide_isB (u : Int) (i : Nat) : IsB (wideB u i) := by
  refine IsB.cons (by omega) fun x hx => ?_
  obtain ⟨p, _, rfl⟩ := List.mem_map.1 hx
  split
  · omega
  · unfold bt; omega
theorem lead255 : lead 255 = 8 ∧ g0 255 8 = 0 := by decide +kernel
theorem getS_wide (u : Int) (h0 : 0 ≤ u) (h1 : u < 18446744073709551616) (h : more u.toNat < 8) : getS (wideB u 8) = (0, 0) := by
  obtain ⟨n, rfl⟩ := Int.eq_ofNat_of_zero_le h0
  have hn : n < 18446744073709551616 := by omega
  have e : wideB (n : Int) 8 = 255 :: (List.range 8).map (bt n 8) := by simp [wideB]
  have eacc : gacc (255 :: (List.range 8).map (bt n 8)) 8 8 = n := by
    unfold gacc
    have := fold_num n 8 hn 8 (by omega)
    rw [Nat.div_eq_of_lt (show n < 2 ^ (8 * 8) by omega)] at this
    simp only [List.getD_cons_zero, lead255.2]
    rw [List.drop_one, List.tail_cons, List.take_of_length_le (by simp)]
    simpa using this
  rw [e]
  unfold getS
  rw [List.getD_cons_zero, lead255.1, if_neg (by simp), eacc, if_neg (by simp only [Int.toNat_natCast] at h ⊢; omega)]

end Go.Proofs.YtmlekbabofldoabDoor
