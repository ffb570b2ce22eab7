/-
  Plain mathematics over the contracts' own words: what was framed is told.
-/
import Derived.Test.YtmlekbabofldoaaDoorW9
namespace Go.Proofs.YtmlekbabofldoaaDoor
open Go.RowKit

/-- A frame's first bytes; what a frame is, told by Unframe. -/
theorem frame_get0 (xs : List Int) : (frameB xs).getD 0 0 = 197 := by simp [frameB, frameH]
theorem frame_get1 (xs : List Int) : (frameB xs).getD 1 0 = (xs.length : Int) % 256 := by simp [frameB, frameH, lowB, List.range_succ]
theorem frame_get2 (xs : List Int) : (frameB xs).getD 2 0 = (xs.length : Int) / 256 % 256 := by simp [frameB, frameH, lowB, List.range_succ]
theorem frame_get3 (xs : List Int) : (frameB xs).getD 3 0 = (xs.length : Int) / 65536 % 256 := by simp [frameB, frameH, lowB, List.range_succ]
theorem frameB_isB {xs : List Int} (h : IsB xs) : IsB (frameB xs) := IsB.append (frameH_isB h) (lowB_isB _ _)

theorem low3 (a b c : Int) (h : IsB [a, b, c]) : lowS [a, b, c] = a + b * 256 + c * 65536 := by
  rw [show lowS [a, b, c] = lowT [a, b, c] 3 from rfl, lowT3 _ h]; rfl
theorem low4 (a b c d : Int) (h : IsB [a, b, c, d]) : lowS [a, b, c, d] = a + b * 256 + c * 65536 + d * 16777216 := by
  rw [show lowS [a, b, c, d] = lowT [a, b, c, d] 4 from rfl, lowT4 _ h]; rfl
theorem lowS_lowB3 (u : Int) (h0 : 0 ≤ u) (h1 : u < 16777216) : lowS (lowB u 3) = u := by
  rw [show lowB u 3 = [u / 2 ^ 0 % 256, u / 2 ^ 8 % 256, u / 2 ^ 16 % 256] from rfl, low3 _ _ _ (lowB_isB u 3)]
  show u / 1 % 256 + u / 256 % 256 * 256 + u / 65536 % 256 * 65536 = u
  omega
theorem lowS_lowB4 (u : Int) (h0 : 0 ≤ u) (h1 : u < 4294967296) : lowS (lowB u 4) = u := by
  rw [show lowB u 4 = [u / 2 ^ 0 % 256, u / 2 ^ 8 % 256, u / 2 ^ 16 % 256, u / 2 ^ 24 % 256] from rfl, low4 _ _ _ _ (lowB_isB u 4)]
  show u / 1 % 256 + u / 256 % 256 * 256 + u / 65536 % 256 * 65536 + u / 16777216 % 256 * 16777216 = u
  omega

theorem cnt_frame (xs r : List Int) (h : xs.length ≤ 1048576) : cntS (frameB xs ++ r) = xs.length := by
  unfold cntS
  have e : ((frameB xs ++ r).drop 1).take 3 = lowB xs.length 3 := by simp [frameB, frameH, lowB, List.range_succ]
  rw [e, lowS_lowB3 _ (by omega) (by omega)]
  simp
/-- What was framed is told, whatever stands behind it. -/
theorem unframe_frame (xs r : List Int) (h : xs.length ≤ 1048576) : unframeS (frameB xs ++ r) = (xs, (xs.length : Int) + 8, 0) := by
  have hlen : (frameB xs ++ r).length = xs.length + 8 + r.length := by rw [List.length_append, frameB_length]
  have h0 : (frameB xs ++ r).getD 0 0 = 197 := by simp [frameB, frameH]
  have hc := cnt_frame xs r h
  have hH : (frameB xs ++ r).take (4 + xs.length) = frameH xs := by
    unfold frameB
    rw [List.append_assoc]
    exact List.take_left' (by rw [frameH_length]; omega)
  have hS : ((frameB xs ++ r).drop (4 + xs.length)).take 4 = lowB (sumS (frameH xs)) 4 := by
    unfold frameB
    rw [List.append_assoc, List.drop_left' (by rw [frameH_length]; omega)]
    exact List.take_left' (lowB_length _ _)
  have hX : ((frameB xs ++ r).drop 4).take xs.length = xs := by
    simp [frameB, frameH, lowB, List.range_succ]
  have hb := sumS_bd (frameH xs)
  unfold unframeS
  rw [if_neg (by omega), if_neg (fun h => h h0), if_neg (by omega), hc, if_neg (by omega), if_neg (by omega), hH, hS, lowS_lowB4 _ hb.1 (by omega), if_neg (fun h => h rfl), hX]

theorem unframe_mark (xs : List Int) (hn : xs.length ≠ 0) (h : xs.getD 0 0 ≠ 197) : unframeS xs = ([], 0, 8) := by
  rw [unframeS, if_neg hn, if_pos h]

theorem set_isB {xs : List Int} (h : IsB xs) (j : Nat) (m : Int) (hm : 0 ≤ m ∧ m ≤ 255) : IsB (xs.set j m) := fun x hx => by
  rcases List.mem_or_eq_of_mem_set hx with h1 | h1
  · exact h x h1
  · rw [h1]; exact hm

end Go.Proofs.YtmlekbabofldoaaDoor
