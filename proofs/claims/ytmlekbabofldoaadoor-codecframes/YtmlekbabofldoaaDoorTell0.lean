/-
  Plain mathematics: a sum sees every byte that was turned; beginnings of a frame.
-/
import Derived.Test.YtmlekbabofldoaaDoorFrm1
namespace Go.Proofs.YtmlekbabofldoaaDoor
open Go.RowKit

theorem xor_u32 (a b : Nat) (ha : a < 4294967296) (hb : b < 4294967296) : bits .xor .u32 (a : Int) (b : Int) = ((a ^^^ b : Nat) : Int) := by
  have hx : a ^^^ b < 2 ^ 32 := Nat.xor_lt_two_pow (by omega) (by omega)
  have h1 : (BitVec.ofInt 32 (a : Int)).toNat = a := by
    rw [BitVec.ofInt_natCast, BitVec.toNat_ofNat]; exact Nat.mod_eq_of_lt (by omega)
  have h2 : (BitVec.ofInt 32 (b : Int)).toNat = b := by
    rw [BitVec.ofInt_natCast, BitVec.toNat_ofNat]; exact Nat.mod_eq_of_lt (by omega)
  show IntKind.u32.wrap ((BitVec.ofInt 32 (a : Int) ^^^ BitVec.ofInt 32 (b : Int)).toNat : Int) = _
  rw [BitVec.toNat_xor, h1, h2, IntKind.wrap_u32]
  omega

theorem xor_cancel (a b c : Nat) (h : a ^^^ c = b ^^^ c) : a = b := by
  have := congrArg (· ^^^ c) h
  simpa [Nat.xor_assoc] using this

theorem xor32_inj (a b c : Int) (ha : 0 ≤ a ∧ a ≤ 4294967295) (hb : 0 ≤ b ∧ b ≤ 4294967295) (hc : 0 ≤ c ∧ c ≤ 4294967295) (h : bits .xor .u32 a c = bits .xor .u32 b c) : a = b := by
  obtain ⟨x, rfl⟩ := Int.eq_ofNat_of_zero_le ha.1
  obtain ⟨y, rfl⟩ := Int.eq_ofNat_of_zero_le hb.1
  obtain ⟨z, rfl⟩ := Int.eq_ofNat_of_zero_le hc.1
  rw [xor_u32 x z (by omega) (by omega), xor_u32 y z (by omega) (by omega)] at h
  rw [xor_cancel x y z (by exact_mod_cast h)]
theorem xor32_comm (a b : Int) (ha : 0 ≤ a ∧ a ≤ 4294967295) (hb : 0 ≤ b ∧ b ≤ 4294967295) : bits .xor .u32 a b = bits .xor .u32 b a := by
  obtain ⟨x, rfl⟩ := Int.eq_ofNat_of_zero_le ha.1
  obtain ⟨y, rfl⟩ := Int.eq_ofNat_of_zero_le hb.1
  rw [xor_u32 x y (by omega) (by omega), xor_u32 y x (by omega) (by omega), Nat.xor_comm]

/-- The table's high bits tell its place. -/
theorem nib_top : ∀ i : Fin 16, (nib i.val).toNat / 268435456 = i.val ∧ 0 ≤ nib i.val ∧ nib i.val ≤ 4294967295 := by decide +kernel

theorem and15_eq (c : Int) (h0 : 0 ≤ c) (h1 : c ≤ 4294967295) : bits BinOp.and .u32 c 15 = c % 16 :=
  bits_mask .u32 32 (by decide) (fun n h0 h1 => by rw [IntKind.wrap_u32]; omega) 4 (by decide) c h0 (by omega)

theorem xor_top (a t : Nat) (ha : a < 268435456) : (a ^^^ t) / 268435456 = t / 268435456 := by
  have e : ∀ x : Nat, x / 268435456 = x >>> 28 := fun x => by rw [Nat.shiftRight_eq_div_pow]
  rw [e, e, Nat.shiftRight_xor_distrib, ← e, Nat.div_eq_of_lt ha, Nat.zero_xor]

theorem st1_nat (c : Nat) (h : c < 4294967296) : st1 c = ((c / 16 ^^^ (nib ((c % 16 : Nat) : Int)).toNat : Nat) : Int) := by
  unfold st1
  have hn := nib_top ⟨c % 16, by omega⟩
  simp only at hn
  rw [and15_eq c (by omega) (by omega), show ((c : Int) / 16) = ((c / 16 : Nat) : Int) by omega, show ((c : Int) % 16) = ((c % 16 : Nat) : Int) by omega]
  obtain ⟨m, hm⟩ := Int.eq_ofNat_of_zero_le hn.2.1
  rw [hm, xor_u32 _ _ (by omega) (by omega), Int.toNat_natCast]

theorem st1_inj (c d : Int) (hc : 0 ≤ c ∧ c ≤ 4294967295) (hd : 0 ≤ d ∧ d ≤ 4294967295) (h : st1 c = st1 d) : c = d := by
  obtain ⟨x, rfl⟩ := Int.eq_ofNat_of_zero_le hc.1
  obtain ⟨y, rfl⟩ := Int.eq_ofNat_of_zero_le hd.1
  rw [st1_nat x (by omega), st1_nat y (by omega)] at h
  have h' : x / 16 ^^^ (nib ((x % 16 : Nat) : Int)).toNat = y / 16 ^^^ (nib ((y % 16 : Nat) : Int)).toNat := by exact_mod_cast h
  have hx := nib_top ⟨x % 16, by omega⟩
  have hy := nib_top ⟨y % 16, by omega⟩
  simp only at hx hy
  have t : (x / 16 ^^^ (nib ((x % 16 : Nat) : Int)).toNat) / 268435456 = (y / 16 ^^^ (nib ((y % 16 : Nat) : Int)).toNat) / 268435456 := congrArg (· / 268435456) h'
  rw [xor_top _ _ (by omega), xor_top _ _ (by omega), hx.1, hy.1] at t
  rw [t] at h'
  have := xor_cancel _ _ _ h'
  have e : x = y := by omega
  rw [e]

theorem stB_inj_c (c d x : Int) (hc : 0 ≤ c ∧ c ≤ 4294967295) (hd : 0 ≤ d ∧ d ≤ 4294967295) (hx : 0 ≤ x ∧ x ≤ 255) (h : stB c x = stB d x) : c = d :=
  xor32_inj c d x hc hd ⟨hx.1, by omega⟩ (st1_inj _ _ (xor_bd _ _) (xor_bd _ _) (st1_inj _ _ (st1_bd _) (st1_bd _) h))
theorem stB_inj_x (c x y : Int) (hc : 0 ≤ c ∧ c ≤ 4294967295) (hx : 0 ≤ x ∧ x ≤ 255) (hy : 0 ≤ y ∧ y ≤ 255) (h : stB c x = stB c y) : x = y := by
  have h1 := st1_inj _ _ (xor_bd _ _) (xor_bd _ _) (st1_inj _ _ (st1_bd _) (st1_bd _) h)
  rw [xor32_comm c x hc ⟨hx.1, by omega⟩, xor32_comm c y hc ⟨hy.1, by omega⟩] at h1
  exact xor32_inj x y c ⟨hx.1, by omega⟩ ⟨hy.1, by omega⟩ hc h1

theorem fold_inj : ∀ (l : List Int) (c d : Int), IsB l → (0 ≤ c ∧ c ≤ 4294967295) → (0 ≤ d ∧ d ≤ 4294967295) → l.foldl stB c = l.foldl stB d → c = d
  | [], _, _, _, _, _, h => h
  | x :: l, c, d, hl, hc, hd, h =>
    stB_inj_c c d x hc hd (hl x List.mem_cons_self) (fold_inj l (stB c x) (stB d x) (fun y hy => hl y (List.mem_cons_of_mem _ hy)) (stB_bd _ _) (stB_bd _ _) h)

/-- One byte that is another one: another sum. -/
theorem crc_sees (l : List Int) (r : List Int) (x y : Int) (hr : IsB r) (hx : 0 ≤ x ∧ x ≤ 255) (hy : 0 ≤ y ∧ y ≤ 255) (h : sumS (l ++ x :: r) = sumS (l ++ y :: r)) : x = y := by
  have h1 : crc (l ++ x :: r) = crc (l ++ y :: r) := by
    unfold sumS at h
    rw [xor32_comm _ _ (by decide) (crc_bd _), xor32_comm _ (crc (l ++ y :: r)) (by decide) (crc_bd _)] at h
    exact xor32_inj _ _ _ (crc_bd _) (crc_bd _) (by decide) h
  unfold crc at h1
  rw [List.foldl_append, List.foldl_append, List.foldl_cons, List.foldl_cons] at h1
  exact stB_inj_x _ x y (crc_bd l) hx hy (fold_inj r _ _ hr (stB_bd _ _) (stB_bd _ _) h1)

theorem sum_set (xs : List Int) (j : Nat) (y : Int) (hj : j < xs.length) (hB : IsB xs) (hy : 0 ≤ y ∧ y ≤ 255) (hne : y ≠ xs.getD j 0) : sumS (xs.set j y) ≠ sumS xs := by
  intro h
  have e1 : xs = xs.take j ++ xs[j] :: xs.drop (j + 1) := by simp
  have e2 : xs.set j y = xs.take j ++ y :: xs.drop (j + 1) := by rw [List.set_eq_take_append_cons_drop, if_pos hj]
  rw [e2] at h
  rw [show sumS xs = sumS (xs.take j ++ xs[j] :: xs.drop (j + 1)) from by rw [← e1]] at h
  have hg : xs.getD j 0 = xs[j] := by simp [List.getElem?_eq_getElem hj]
  have := crc_sees (xs.take j) (xs.drop (j + 1)) y xs[j] (fun z hz => hB z (List.mem_of_mem_drop hz)) hy (hB _ (List.getElem_mem hj)) h
  exact hne (by rw [hg]; exact this)


/-- A beginning of a frame is too short. -/
theorem unframe_early (xs : List Int) (h : xs.length ≤ 1048576) (i : Nat) (hi : i < xs.length + 8) : unframeS ((frameB xs).take i) = ([], 0, 10) := by
  have hlen : ((frameB xs).take i).length = i := by rw [List.length_take, frameB_length]; omega
  unfold unframeS
  rcases Nat.eq_zero_or_pos i with rfl | h0
  · simp
  · rw [hlen, if_neg (by omega)]
    have hm : ((frameB xs).take i).getD 0 0 = 197 := by
      obtain ⟨j, rfl⟩ : ∃ j, i = j + 1 := ⟨i - 1, by omega⟩
      simp [frameB, frameH]
    rw [if_neg (fun h => h hm)]
    by_cases h4 : i < 4
    · rw [if_pos h4]
    · rw [if_neg h4]
      have hc : cntS ((frameB xs).take i) = xs.length := by
        have := cnt_frame xs [] h
        rw [List.append_nil] at this
        rw [← this]
        unfold cntS
        congr 2
        obtain ⟨j, rfl⟩ : ∃ j, i = j + 4 := ⟨i - 4, by omega⟩
        simp [frameB, frameH, lowB, List.range_succ]
      rw [hc, if_neg (by omega), if_pos (by omega)]

/-- A byte of the sum that is another one. -/
theorem low4_inj (a b : List Int) (ha : a.length = 4) (hb : b.length = 4) (hBa : IsB a) (hBb : IsB b) (h : lowS a = lowS b) : a = b := by
  obtain ⟨a0, a1, a2, a3, rfl⟩ : ∃ a0 a1 a2 a3, a = [a0, a1, a2, a3] := by
    match a, ha with
    | [a0, a1, a2, a3], _ => exact ⟨a0, a1, a2, a3, rfl⟩
  obtain ⟨b0, b1, b2, b3, rfl⟩ : ∃ b0 b1 b2 b3, b = [b0, b1, b2, b3] := by
    match b, hb with
    | [b0, b1, b2, b3], _ => exact ⟨b0, b1, b2, b3, rfl⟩
  rw [low4 _ _ _ _ hBa, low4 _ _ _ _ hBb] at h
  have h0 := hBa a0 (by simp)
  have h1 := hBa a1 (by simp)
  have h2 := hBa a2 (by simp)
  have h3 := hBa a3 (by simp)
  have g0 := hBb b0 (by simp)
  have g1 := hBb b1 (by simp)
  have g2 := hBb b2 (by simp)
  have g3 := hBb b3 (by simp)
  obtain ⟨rfl, rfl, rfl, rfl⟩ : a0 = b0 ∧ a1 = b1 ∧ a2 = b2 ∧ a3 = b3 := by omega
  rfl

/-- A frame of which one byte behind the count is another one is none. -/
theorem unframe_turned (xs : List Int) (h : xs.length ≤ 1048576) (hB : IsB xs) (j : Nat) (y : Int) (hj4 : 4 ≤ j) (hj : j < xs.length + 8) (hy : 0 ≤ y ∧ y ≤ 255) (hne : y ≠ (frameB xs).getD j 0) : unframeS ((frameB xs).set j y) = ([], 0, 8) := by
  have hFB := frameB_isB hB
  have hlen : ((frameB xs).set j y).length = xs.length + 8 := by rw [List.length_set, frameB_length]
  have hm : ((frameB xs).set j y).getD 0 0 = 197 := by
    obtain ⟨i, rfl⟩ : ∃ i, j = i + 1 := ⟨j - 1, by omega⟩
    simp [frameB, frameH]
  have hc : cntS ((frameB xs).set j y) = xs.length := by
    have := cnt_frame xs [] h
    rw [List.append_nil] at this
    rw [← this]
    unfold cntS
    congr 1
    congr 1
    obtain ⟨i, rfl⟩ : ∃ i, j = i + 4 := ⟨j - 4, by omega⟩
    simp [frameB, frameH, lowB, List.range_succ]
  unfold unframeS
  rw [hlen, if_neg (by omega), if_neg (fun h => h hm), if_neg (by omega), hc, if_neg (by omega), if_neg (by omega), if_pos]
  have hH : (frameB xs).take (4 + xs.length) = frameH xs := by
    unfold frameB
    exact List.take_left' (by rw [frameH_length]; omega)
  have hS : ((frameB xs).drop (4 + xs.length)).take 4 = lowB (sumS (frameH xs)) 4 := by
    unfold frameB
    rw [List.drop_left' (by rw [frameH_length]; omega)]
    exact List.take_of_length_le (by rw [lowB_length]; omega)
  have hb := sumS_bd (frameH xs)
  by_cases hjn : j < 4 + xs.length
  · have e1 : ((frameB xs).set j y).take (4 + xs.length) = (frameH xs).set j y := by rw [← hH, List.take_set]
    have e2 : (((frameB xs).set j y).drop (4 + xs.length)).take 4 = lowB (sumS (frameH xs)) 4 := by rw [← hS, List.drop_set, if_pos hjn]
    rw [e1, e2, lowS_lowB4 _ hb.1 (by omega)]
    refine sum_set (frameH xs) j y (by rw [frameH_length]; omega) (frameH_isB hB) hy ?_
    rw [← hH]
    have : ((frameB xs).take (4 + xs.length)).getD j 0 = (frameB xs).getD j 0 := by simp [hjn]
    rw [this]
    exact hne
  · have e1 : ((frameB xs).set j y).take (4 + xs.length) = frameH xs := by rw [← hH, List.take_set_of_le (by omega)]
    have e2 : (((frameB xs).set j y).drop (4 + xs.length)).take 4 = (lowB (sumS (frameH xs)) 4).set (j - (4 + xs.length)) y := by rw [← hS, List.drop_set, if_neg hjn, List.take_set]
    rw [e1, e2]
    intro hq
    have hq2 : lowS (lowB (sumS (frameH xs)) 4) = lowS ((lowB (sumS (frameH xs)) 4).set (j - (4 + xs.length)) y) := by rw [← hq]; exact lowS_lowB4 _ hb.1 (by omega)
    have hq3 := low4_inj _ _ (lowB_length _ _) (by rw [List.length_set, lowB_length]) (lowB_isB _ _) (set_isB (lowB_isB _ _) _ _ hy) hq2
    apply hne
    have hg : (frameB xs).getD j 0 = (lowB (sumS (frameH xs)) 4).getD (j - (4 + xs.length)) 0 := by
      rw [← hS]
      have h1 : j - (4 + xs.length) < 4 := by omega
      have h2 : 4 + xs.length + (j - (4 + xs.length)) = j := by omega
      simp [h1, h2]
    rw [hg, hq3]
    have hl : j - (4 + xs.length) < (lowB (sumS (frameH xs)) 4).length := by rw [lowB_length]; omega
    simp [hl]

end Go.Proofs.YtmlekbabofldoaaDoor
