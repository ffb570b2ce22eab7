/-
  Plain mathematics: numbers' bytes stand in the order of the numbers. No program is named here.
-/
import Derived.Test.YtmlekbabofldoabDoorBack0
namespace Go.Proofs.YtmlekbabofldoabDoor
open Go.RowKit

/-- The order of texts, over the bytes as integers. -/
def lessI : List Int → List Int → Bool
  | _, [] => false
  | [], _ :: _ => true
  | a :: x, b :: y => decide (a < b) || (decide (a = b) && lessI x y)

theorem lessI_bytes : ∀ (xs ys : List Int), IsB xs → IsB ys → Op.bytesLess (xs.map fun n => UInt8.ofNat n.toNat) (ys.map fun n => UInt8.ofNat n.toNat) = lessI xs ys
  | _, [], _, _ => by simp [Op.bytesLess, lessI]
  | [], _ :: _, _, _ => by simp [Op.bytesLess, lessI]
  | a :: x, b :: y, ha, hb => by
    have h1 := ha a List.mem_cons_self
    have h2 := hb b List.mem_cons_self
    have ih := lessI_bytes x y (fun c hc => ha c (List.mem_cons_of_mem _ hc)) (fun c hc => hb c (List.mem_cons_of_mem _ hc))
    have e1 : (UInt8.ofNat a.toNat).toNat = a.toNat := by simp; omega
    have e2 : (UInt8.ofNat b.toNat).toNat = b.toNat := by simp; omega
    have e3 : decide (UInt8.ofNat a.toNat < UInt8.ofNat b.toNat) = decide (a < b) := by
      rw [decide_eq_decide, UInt8.lt_iff_toNat_lt, e1, e2]; omega
    have e4 : (UInt8.ofNat a.toNat == UInt8.ofNat b.toNat) = decide (a = b) := by
      rw [Bool.eq_iff_iff, beq_iff_eq, decide_eq_true_iff, ← UInt8.toNat_inj, e1, e2]; omega
    simp only [List.map_cons, Op.bytesLess, lessI, ih, e3, e4]

def valI (xs : List Int) (a : Int) : Int := xs.foldl (fun a x => a * 256 + x) a

theorem valI_lt : ∀ (xs ys : List Int) (a b : Int), xs.length = ys.length → IsB xs → IsB ys → a < b → valI xs a < valI ys b
  | [], [], a, b, _, _, _, h => h
  | [], _ :: _, _, _, h, _, _, _ => by simp at h
  | _ :: _, [], _, _, h, _, _, _ => by simp at h
  | x :: xs, y :: ys, a, b, hl, hx, hy, h => by
    have h1 := hx x List.mem_cons_self
    have h2 := hy y List.mem_cons_self
    exact valI_lt xs ys (a * 256 + x) (b * 256 + y) (by simpa using hl) (fun c hc => hx c (List.mem_cons_of_mem _ hc)) (fun c hc => hy c (List.mem_cons_of_mem _ hc)) (by omega)

theorem lessI_val : ∀ (xs ys : List Int) (a : Int), xs.length = ys.length → IsB xs → IsB ys → lessI xs ys = decide (valI xs a < valI ys a)
  | [], [], a, _, _, _ => by simp [lessI, valI]
  | [], _ :: _, _, h, _, _ => by simp at h
  | _ :: _, [], _, h, _, _ => by simp at h
  | x :: xs, y :: ys, a, hl, hx, hy => by
    have hl' : xs.length = ys.length := by simpa using hl
    have hx' : IsB xs := fun c hc => hx c (List.mem_cons_of_mem _ hc)
    have hy' : IsB ys := fun c hc => hy c (List.mem_cons_of_mem _ hc)
    show (decide (x < y) || (decide (x = y) && lessI xs ys)) = decide (valI xs (a * 256 + x) < valI ys (a * 256 + y))
    rcases Int.lt_trichotomy x y with h | h | h
    · have := valI_lt xs ys (a * 256 + x) (a * 256 + y) hl' hx' hy' (by omega)
      simp [h, this]
    · subst h
      rw [lessI_val xs ys (a * 256 + x) hl' hx' hy']
      simp
    · have := valI_lt ys xs (a * 256 + y) (a * 256 + x) hl'.symm hy' hx' (by omega)
      have h1 : ¬ x < y := by omega
      have h2 : ¬ x = y := by omega
      have h3 : ¬ valI xs (a * 256 + x) < valI ys (a * 256 + y) := by omega
      simp [h1, h2, h3]

/-- The first byte, as a sum. -/
theorem first_sum : ∀ k : Fin 9, ∀ t : Fin 128, t.val < 2 ^ (7 - k.val) ∧ (k.val = 8 → t.val = 0) →
    bits BinOp.or .u8 (bits BinOp.xor .u8 IntKind.u8.max (255 / 2 ^ k.val)) t.val = 256 - 2 ^ (8 - k.val) + t.val := by decide +kernel
theorem first_apart : ∀ k k' : Fin 9, k.val < k'.val → (256 : Int) - 2 ^ (8 - k.val) + 2 ^ (7 - k.val) ≤ 256 - 2 ^ (8 - k'.val) := by decide +kernel

theorem fb_sum (u : Nat) (hu : u < 18446744073709551616) : fb u (more u) = 256 - 2 ^ (8 - more u) + ((u / 2 ^ (8 * more u) : Nat) : Int) := by
  have hk := more_le u
  obtain ⟨h1, h2⟩ := top_small u hu
  have h3 : 2 ^ (7 - more u) ≤ 128 := Nat.le_trans (Nat.pow_le_pow_right (by decide) (show 7 - more u ≤ 7 by omega)) (by decide)
  have ht : u / 2 ^ (8 * more u) < 128 := by omega
  have := first_sum ⟨more u, by omega⟩ ⟨u / 2 ^ (8 * more u), ht⟩ ⟨h1, h2⟩
  have e : fb (u : Int) (more u) = bits BinOp.or .u8 (bits BinOp.xor .u8 IntKind.u8.max (255 / 2 ^ more u)) ((u / 2 ^ (8 * more u) : Nat) : Int) := by
    unfold fb
    have e2 : (u : Int) / 2 ^ (8 * more u) % 256 = ((u / 2 ^ (8 * more u) : Nat) : Int) := by
      rw [show ((u : Int) / 2 ^ (8 * more u)) = ((u / 2 ^ (8 * more u) : Nat) : Int) by simp]
      generalize u / 2 ^ (8 * more u) = t at *
      omega
    rw [e2]
  rw [e]
  exact this

theorem val_num (u k : Nat) (C : Int) : ∀ j, j ≤ k → valI ((List.range j).map (bt u k)) (C + ((u / 2 ^ (8 * k) : Nat) : Int)) = C * 256 ^ j + ((u / 2 ^ (8 * (k - j)) : Nat) : Int)
  | 0, _ => by simp [valI]
  | j + 1, h => by
    have ih := val_num u k C j (by omega)
    unfold valI at ih ⊢
    rw [List.range_succ, List.map_append, List.foldl_append, ih]
    simp only [List.map_cons, List.map_nil, List.foldl_cons, List.foldl_nil]
    rw [div_step u k j (by omega), bt_nat, show k - 1 - j = k - (j + 1) by omega, Int.pow_succ]
    generalize u / 2 ^ (8 * (k - (j + 1))) = a
    generalize (256 : Int) ^ j = p
    rw [Int.add_mul, Int.mul_assoc]
    omega

theorem numB_val (u : Nat) (hu : u < 18446744073709551616) : valI (numB u) 0 = (256 - 2 ^ (8 - more u)) * 256 ^ more u + u := by
  have h := val_num u (more u) (256 - 2 ^ (8 - more u)) (more u) (Nat.le_refl _)
  have e : valI (numB (u : Int)) 0 = valI ((List.range (more u)).map (bt u (more u))) (256 - 2 ^ (8 - more u) + ((u / 2 ^ (8 * more u) : Nat) : Int)) := by
    rw [← fb_sum u hu]
    simp [numB, numK, valI]
  rw [e, h]
  simp

theorem more_lo (u : Nat) : more u = 0 ∨ 2 ^ (7 * more u) ≤ u := by
  unfold more
  repeat' split
  all_goals simp
  all_goals omega
theorem more_mono (u v : Nat) (hv : v < 18446744073709551616) (h : u ≤ v) : more u ≤ more v := by
  rcases Nat.lt_or_ge (more v) (more u) with h1 | h1
  · have h2 := more_le u
    have h3 := (more_lt v hv).1 (by omega)
    rcases more_lo u with h4 | h4
    · omega
    · have h5 : 2 ^ (7 * (more v + 1)) ≤ 2 ^ (7 * more u) := Nat.pow_le_pow_right (by decide) (by omega)
      omega
  · exact h1

theorem lessI_cons_lt (a b : Int) (x y : List Int) (h : a < b) : lessI (a :: x) (b :: y) = true := by simp [lessI, h]
theorem lessI_cons_gt (a b : Int) (x y : List Int) (h : b < a) : lessI (a :: x) (b :: y) = false := by
  have h1 : ¬ a < b := by omega
  have h2 : ¬ a = b := by omega
  simp [lessI, h1, h2]

theorem fb_lt (u v : Nat) (hu : u < 18446744073709551616) (hv : v < 18446744073709551616) (h : more u < more v) : fb u (more u) < fb v (more v) := by
  have hk := more_le v
  rw [fb_sum u hu, fb_sum v hv]
  have ha := first_apart ⟨more u, by omega⟩ ⟨more v, by omega⟩ h
  have ht := (top_small u hu).1
  simp only at ha
  have ht' : ((u / 2 ^ (8 * more u) : Nat) : Int) < 2 ^ (7 - more u) := by exact_mod_cast ht
  have h0 : (0 : Int) ≤ ((v / 2 ^ (8 * more v) : Nat) : Int) := Int.natCast_nonneg _
  omega

/-- Numbers' bytes stand in the order of the numbers. -/
theorem lessI_numB (u v : Nat) (hu : u < 18446744073709551616) (hv : v < 18446744073709551616) : lessI (numB u) (numB v) = decide ((u : Int) < v) := by
  rcases Nat.lt_trichotomy (more u) (more v) with h | h | h
  · have huv : u < v := by
      rcases Nat.lt_or_ge u v with h1 | h1
      · exact h1
      · have := more_mono v u hu h1; omega
    have e := lessI_cons_lt _ _ ((List.range (more u)).map (bt u (more u))) ((List.range (more v)).map (bt v (more v))) (fb_lt u v hu hv h)
    have e2 : ((u : Int) < v) := by omega
    simpa [numB, numK, e2] using e
  · rw [lessI_val (numB u) (numB v) 0 (by rw [numB_length, numB_length]; simp [h]) (numB_isB _) (numB_isB _), numB_val u hu, numB_val v hv, h, decide_eq_decide]
    omega
  · have huv : v < u := by
      rcases Nat.lt_or_ge v u with h1 | h1
      · exact h1
      · have := more_mono u v hv h1; omega
    have e := lessI_cons_gt _ _ ((List.range (more u)).map (bt u (more u))) ((List.range (more v)).map (bt v (more v))) (fb_lt v u hv hu h)
    have e2 : ¬ ((u : Int) < v) := by omega
    simpa [numB, numK, e2] using e

theorem less_numB (u v : Int) (hu : 0 ≤ u ∧ u ≤ 18446744073709551615) (hv : 0 ≤ v ∧ v ≤ 18446744073709551615) : Op.bytesLess (strOfNums (numB u)).toList (strOfNums (numB v)).toList = decide (u < v) := by
  obtain ⟨m, rfl⟩ := Int.eq_ofNat_of_zero_le hu.1
  obtain ⟨n, rfl⟩ := Int.eq_ofNat_of_zero_le hv.1
  rw [ByteArray.toList_eq, ByteArray.toList_eq, strOfNums_data, strOfNums_data, lessI_bytes _ _ (numB_isB _) (numB_isB _)]
  exact lessI_numB m n (by omega) (by omega)

theorem numB_inj (u v : Int) (hu : 0 ≤ u ∧ u ≤ 18446744073709551615) (hv : 0 ≤ v ∧ v ≤ 18446744073709551615) (h : numB u = numB v) : u = v := by
  have h1 := getS_numB u hu.1 (by omega) []
  have h2 := getS_numB v hv.1 (by omega) []
  rw [h, h2] at h1
  exact (congrArg Prod.fst h1).symm

end Go.Proofs.YtmlekbabofldoabDoor
