/-
  '==' of two arrays of four words.
-/
import Derived.Test.YtkjnifipepiahaaDoorSip1
import Derived.ChangeKeysEq
namespace Go.Proofs.YtkjnifipepiahaaDoor
open Go.RowKit

theorem info22 : (Tryd.prog.info? 22).isSome = true := by kernel_rfl
theorem cells22 : Tryd.prog.cellsOf 22 = 1 := by kernel_rfl
theorem plain22 : Tryd.prog.plainKey 22 = true := by kernel_rfl

theorem part22 (xs : Array Value) (i : Nat) (x : Int) (w : World) (h : xs[i]? = some (.int .u64 x)) : (part 22 xs (i * Tryd.prog.cellsOf 22)).run Tryd.prog w = .ok (.int .u64 x) w := by
  rw [cells22, Nat.mul_one]
  exact run_part_plain w plain22 h

theorem item22 (xs ys : Array Value) (i : Nat) (is : List Nat) (x y : Int) (w : World) (hx : xs[i]? = some (.int .u64 x)) (hy : ys[i]? = some (.int .u64 y)) :
    (Op.eqItems 9999 22 (Tryd.prog.cellsOf 22) xs ys (i :: is)).run Tryd.prog w = if x = y then (Op.eqItems 9999 22 (Tryd.prog.cellsOf 22) xs ys is).run Tryd.prog w else .ok false w := by
  have e : (Op.equalIn 9999 22 (.int .u64 x) (.int .u64 y)).run Tryd.prog w = .ok (x == y) w := run_equalIn_int w 9998 22 .u64 .u64 x y Tryd.underlying22
  simp only [Op.eqItems, Sem.run_bind, part22 xs i x w hx, part22 ys i y w hy, Result.andThen_ok, e]
  by_cases h : x = y
  · subst h; simp
  · simp [h]

theorem eq4 (a b c d a' b' c' d' : Int) (w : World) : ∃ r : Bool, (Op.equalIn 10000 116 (.agg #[.int .u64 a, .int .u64 b, .int .u64 c, .int .u64 d]) (.agg #[.int .u64 a', .int .u64 b', .int .u64 c', .int .u64 d'])).run Tryd.prog w = .ok r w ∧
    (r = true ↔ a = a' ∧ b = b' ∧ c = c' ∧ d = d') := by
  obtain ⟨i, hi⟩ := Option.isSome_iff_exists.1 info22
  rw [show (10000 : Nat) = 9999 + 1 from rfl, run_equalIn_array w 9999 _ _ Tryd.underlying116 hi, show List.range 4 = [0, 1, 2, 3] from rfl,
    item22 _ _ 0 _ a a' w rfl rfl, item22 _ _ 1 _ b b' w rfl rfl, item22 _ _ 2 _ c c' w rfl rfl, item22 _ _ 3 _ d d' w rfl rfl]
  by_cases h1 : a = a'
  · by_cases h2 : b = b'
    · by_cases h3 : c = c'
      · by_cases h4 : d = d'
        · exact ⟨true, by rw [if_pos h1, if_pos h2, if_pos h3, if_pos h4]; simp [Op.eqItems], by simp [h1, h2, h3, h4]⟩
        · exact ⟨false, by rw [if_pos h1, if_pos h2, if_pos h3, if_neg h4], by simp [h4]⟩
      · exact ⟨false, by rw [if_pos h1, if_pos h2, if_neg h3], by simp [h3]⟩
    · exact ⟨false, by rw [if_pos h1, if_neg h2], by simp [h2]⟩
  · exact ⟨false, by rw [if_neg h1], by simp [h1]⟩

theorem eq4_same (a b c d : Int) (w : World) : (Op.equalIn 10000 116 (.agg #[.int .u64 a, .int .u64 b, .int .u64 c, .int .u64 d]) (.agg #[.int .u64 a, .int .u64 b, .int .u64 c, .int .u64 d])).run Tryd.prog w = .ok true w := by
  obtain ⟨r, h1, h2⟩ := eq4 a b c d a b c d w
  rw [h1, h2.2 ⟨rfl, rfl, rfl, rfl⟩]
theorem eq4_other (u v : V4) (h : u ≠ v) (w : World) : (Op.equalIn 10000 116 (.agg #[.int .u64 u.a, .int .u64 u.b, .int .u64 u.c, .int .u64 u.d]) (.agg #[.int .u64 v.a, .int .u64 v.b, .int .u64 v.c, .int .u64 v.d])).run Tryd.prog w = .ok false w := by
  obtain ⟨r, h1, h2⟩ := eq4 u.a u.b u.c u.d v.a v.b v.c v.d w
  cases r with
  | false => exact h1
  | true =>
    obtain ⟨e1, e2, e3, e4⟩ := h2.1 rfl
    obtain ⟨_, _, _, _⟩ := u
    obtain ⟨_, _, _, _⟩ := v
    exact absurd (by simp only at e1 e2 e3 e4; rw [e1, e2, e3, e4]) h
end Go.Proofs.YtkjnifipepiahaaDoor
