/-
  Plain mathematics: what was put is got: numbers, texts, yes and no. No program is named here.
-/
import Derived.Test.YtnbaoimjcaeeaaaGet0
import Derived.Laws.BytesArg
namespace Go.Proofs.Ytnbaoimjcaeeaaa
open Go.RowKit

/-- The first byte: of each count k of bytes behind it, and each start t of the number. -/
theorem first_all : ∀ k : Fin 9, ∀ t : Fin 128, t.val < 2 ^ (7 - k.val) ∧ (k.val = 8 → t.val = 0) →
    lead (bits BinOp.or .u8 (bits BinOp.xor .u8 IntKind.u8.max (255 / 2 ^ k.val)) t.val) = k.val ∧ g0 (bits BinOp.or .u8 (bits BinOp.xor .u8 IntKind.u8.max (255 / 2 ^ k.val)) t.val) k.val = t.val := by decide +kernel

theorem more_lt (u : Nat) (hu : u < 18446744073709551616) : (more u < 8 → u < 2 ^ (7 * (more u + 1))) ∧ (more u = 8 → 72057594037927936 ≤ u) := by
  unfold more
  repeat' split
  all_goals simp
  all_goals omega

theorem top_small (u : Nat) (hu : u < 18446744073709551616) : u / 2 ^ (8 * more u) < 2 ^ (7 - more u) ∧ (more u = 8 → u / 2 ^ (8 * more u) = 0) := by
  unfold more
  repeat' split
  all_goals simp
  all_goals omega

theorem first_byte (u : Nat) (hu : u < 18446744073709551616) : lead (fb u (more u)) = more u ∧ g0 (fb u (more u)) (more u) = ((u / 2 ^ (8 * more u) : Nat) : Int) := by
  have hk := more_le u
  obtain ⟨h1, h2⟩ := top_small u hu
  have h3 : 2 ^ (7 - more u) ≤ 128 := Nat.le_trans (Nat.pow_le_pow_right (by decide) (show 7 - more u ≤ 7 by omega)) (by decide)
  have ht : u / 2 ^ (8 * more u) < 128 := by omega
  have := first_all ⟨more u, by omega⟩ ⟨u / 2 ^ (8 * more u), ht⟩ ⟨h1, h2⟩
  have e : fb (u : Int) (more u) = bits BinOp.or .u8 (bits BinOp.xor .u8 IntKind.u8.max (255 / 2 ^ more u)) ((u / 2 ^ (8 * more u) : Nat) : Int) := by
    unfold fb
    have e2 : (u : Int) / 2 ^ (8 * more u) % 256 = ((u / 2 ^ (8 * more u) : Nat) : Int) := by
      rw [show ((u : Int) / 2 ^ (8 * more u)) = ((u / 2 ^ (8 * more u) : Nat) : Int) by simp]
      generalize u / 2 ^ (8 * more u) = t at *
      omega
    rw [e2]
  rw [e]
  exact this

theorem gs_join (a : Nat) (h : a < 18446744073709551616) : gs ((a / 256 : Nat) : Int) ((a % 256 : Nat) : Int) = (a : Int) := by
  unfold gs
  rw [IntKind.wrap_u64]
  have e1 : ((a / 256 : Nat) : Int) * 256 % 18446744073709551616 = ((a / 256 * 256 : Nat) : Int) := by omega
  rw [e1, bits_join .u64 64 (by decide) (fun n h0 h1 => by rw [IntKind.wrap_u64]; omega) 8 _ _ (by omega) (by omega) (by omega) (by omega) (by omega) (by omega)]
  omega

theorem div_step (u k j : Nat) (h : j < k) : u / 2 ^ (8 * (k - j)) = u / 2 ^ (8 * (k - 1 - j)) / 256 := by
  rw [Nat.div_div_eq_div_mul, show (256 : Nat) = 2 ^ 8 from rfl, ← Nat.pow_add]
  congr 2
  omega

theorem bt_nat (u k i : Nat) : bt (u : Int) k i = ((u / 2 ^ (8 * (k - 1 - i)) % 256 : Nat) : Int) := by
  unfold bt
  simp

theorem fold_num (u k : Nat) (hu : u < 18446744073709551616) : ∀ j, j ≤ k → ((List.range j).map (bt u k)).foldl gs ((u / 2 ^ (8 * k) : Nat) : Int) = ((u / 2 ^ (8 * (k - j)) : Nat) : Int)
  | 0, _ => by simp
  | j + 1, h => by
    rw [List.range_succ, List.map_append, List.foldl_append, fold_num u k hu j (by omega)]
    simp only [List.map_cons, List.map_nil, List.foldl_cons, List.foldl_nil]
    rw [div_step u k j (by omega), bt_nat, gs_join _ (Nat.lt_of_le_of_lt (Nat.div_le_self _ _) hu)]
    rw [show k - 1 - j = k - (j + 1) by omega]

/-- What was put is got, whatever stands behind it. -/
theorem getS_numB (u : Int) (h0 : 0 ≤ u) (h1 : u < 18446744073709551616) (r : List Int) : getS (numB u ++ r) = (u, more u.toNat + 1) := by
  obtain ⟨n, rfl⟩ := Int.eq_ofNat_of_zero_le h0
  have hn : n < 18446744073709551616 := by omega
  obtain ⟨hl, hg⟩ := first_byte n hn
  have hk := more_le n
  have e0 : (numB (n : Int) ++ r).getD 0 0 = fb n (more n) := by simp [numB, numK]
  have elen : (numB (n : Int) ++ r).length = more n + 1 + r.length := by simp [numB, numK]; omega
  have eacc : gacc (numB (n : Int) ++ r) (more n) (more n) = n := by
    unfold gacc
    rw [e0, hg]
    have ed : ((numB (n : Int) ++ r).drop 1).take (more n) = (List.range (more n)).map (bt n (more n)) := by
      simp [numB, numK]
    rw [ed, fold_num n (more n) hn (more n) (Nat.le_refl _)]
    simp
  unfold getS
  simp only [Int.toNat_natCast]
  rw [e0, hl, elen, if_neg (by omega), eacc, Int.toNat_natCast, if_pos rfl]

theorem fb_bd (u : Int) (k : Nat) : 0 ≤ fb u k ∧ fb u k ≤ 255 := ⟨bits_lo_u8 _ _ _, bits_hi_u8 _ _ _⟩
theorem numB_isB (u : Int) : IsB (numB u) := by
  refine IsB.cons (fb_bd _ _) fun x hx => ?_
  obtain ⟨i, _, rfl⟩ := List.mem_map.1 hx
  unfold bt
  omega

/-- A text's bytes lead back to it. -/
theorem strOfNums_bytes (l : List UInt8) : strOfNums (l.map fun b => (b.toNat : Int)) = ⟨l.toArray⟩ := by
  unfold strOfNums
  congr 1
  congr 1
  rw [List.map_map]
  conv => rhs; rw [← List.map_id l]
  apply List.map_congr_left
  intro b _
  simp

theorem getTextS_put (ys r : List Int) (h : ys.length < 18446744073709551616) : getTextS (numB ys.length ++ ys ++ r) = (ys, (numB ys.length).length + ys.length) := by
  have hg := getS_numB (ys.length : Int) (by omega) (by omega) (ys ++ r)
  rw [← List.append_assoc] at hg
  unfold getTextS
  rw [hg]
  have hl := numB_length (ys.length : Int)
  simp only [Int.toNat_natCast] at hl ⊢
  rw [if_neg (by simp only [List.length_append]; omega)]
  rw [hl, List.append_assoc, List.drop_left' hl]
  simp

theorem getBoolS_put (b : Bool) (r : List Int) : getBoolS ((if b then (84 : Int) else 70) :: r) = (b, 1) := by
  cases b <;> simp [getBoolS]

end Go.Proofs.Ytnbaoimjcaeeaaa
