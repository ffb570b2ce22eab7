import Derived.Test.YtnbaoimjcaeeaaaGreatGet0To
import Derived.Laws.BytesArg
import Derived.Test.YtnbaoimjcaeeaaaGreatW7To
import Derived.Test.YtnbaoimjcaeeaaaGreatW6To
/-
  Plain mathematics: what was put is got: numbers, texts, yes and no. No program is named here.
-/
namespace Go.Proofs.YtnbaoimjcaeeaaaGreat
open Go.RowKit

/-- The first byte: of each count k of bytes behind it, and each start t of the number. -/
theorem first_all : ∀ k : Fin 9, ∀ t : Fin 128, t.val < 2 ^ (7 - k.val) ∧ (k.val = 8 → t.val = 0) →
    lead (bits BinOp.or .u8 (bits BinOp.xor .u8 IntKind.u8.max (255 / 2 ^ k.val)) t.val) = k.val ∧ g0 (bits BinOp.or .u8 (bits BinOp.xor .u8 IntKind.u8.max (255 / 2 ^ k.val)) t.val) k.val = t.val := by decide +kernel

theorem more_lt (u : Nat) (hu : u < 18446744073709551616) : (more u < 8 → u < 2 ^ (7 * (more u + 1))) ∧ (more u = 8 → 72057594037927936 ≤ u) := by
  unfold more
  repeat' split
  all_goals simp
  all_goals omega

theorem top_small (u : Nat) (hu : u < 18446744073709551616) : u / 2 ^ (8 * more u) < 2 ^ (7 - more u) ∧ (more u = 8 → u / 2 ^ (8 * more u) = 0) := by
  unfold more
  repeat' split
  all_goals simp
  all_goals omega

theorem first_byte (u : Nat) (hu : u < 18446744073709551616) : lead (fb u (more u)) = more u ∧ g0 (fb u (more u)) (more u) = ((u / 2 ^ (8 * more u) : Nat) : Int) := by
  have hk := more_le u
  obtain ⟨h1, h2⟩ := top_small u hu
  have h3 : 2 ^ (7 - more u) ≤ 128 := Nat.le_trans (Nat.pow_le_pow_right (by decide) (show 7 - more u ≤ 7 by omega)) (by decide)
  have ht : u / 2 ^ (8 * more u) < 128 := by omega
  have := first_all ⟨more u, by omega⟩ ⟨u / 2 ^ (8 * more u), ht⟩ ⟨h1, h2⟩
  have e : fb (u : Int) (more u) = bits BinOp.or .u8 (bits BinOp.xor .u8 IntKind.u8.max (255 / 2 ^ more u)) ((u / 2 ^ (8 * more u) : Nat) : Int) := by
    unfold fb
    have e2 : (u : Int) / 2 ^ (8 * more u) % 256 = ((u / 2 ^ (8 * more u) : Nat) : Int) := by
      rw [show ((u : Int) / 2 ^ (8 * more u)) = ((u / 2 ^ (8 * more u) : Nat) : Int) by simp]
      generalize u / 2 ^ (8 * more u) = t at *
      omega
    rw [e2]
  rw [e]
  exact this

theorem gs_join (a : Nat) (h : a < 18446744073709551616) : gs ((a / 256 : Nat) : Int) ((a % 256 : Nat) : Int) = (a : Int) := by
  unfold gs
  rw [IntKind.wrap_u64]
  have e1 : ((a / 256 : Nat) : Int) * 256 % 18446744073709551616 = ((a / 256 * 256 : Nat) : Int) := by omega
  rw [e1, bits_join .u64 64 (by decide) (fun n h0 h1 => by rw [IntKind.wrap_u64]; omega) 8 _ _ (by omega) (by omega) (by omega) (by omega) (by omega) (by omega)]
  omega

theorem div_step (u k j : Nat) (h : j < k) : u / 2 ^ (8 * (k - j)) = u / 2 ^ (8 * (k - 1 - j)) / 256 := by
  rw [Nat.div_div_eq_div_mul, show (256 : Nat) = 2 ^ 8 from rfl, ← Nat.pow_add]
  congr 2
  omega

theorem bt_nat (u k i : Nat) : bt (u : Int) k i = ((u / 2 ^ (8 * (k - 1 - i)) % 256 : Nat) : Int) := by
  unfold bt
  simp

theorem fold_num (u k : Nat) (hu : u < 18446744073709551616) : ∀ j, j ≤ k → ((List.range j).map (bt u k)).foldl gs ((u / 2 ^ (8 * k) : Nat) : Int) = ((u / 2 ^ (8 * (k - j)) : Nat) : Int)
  | 0, _ => by simp
  | j + 1, h => by
    rw [List.range_succ, List.map_append, List.foldl_append, fold_num u k hu j (by omega)]
    simp only [List.map_cons, List.map_nil, List.foldl_cons, List.foldl_nil]
    rw [div_step u k j (by omega), bt_nat, gs_join _ (Nat.lt_of_le_of_lt (Nat.div_le_self _ _) hu)]
    rw [show k - 1 - j = k - (j + 1) by omega]

/-- What was put is got, whatever stands behind it. -/
theorem getS_numB (u : Int) (h0 : 0 ≤ u) (h1 : u < 18446744073709551616) (r : List Int) : getS (numB u ++ r) = (u, more u.toNat + 1) := by
  obtain ⟨n, rfl⟩ := Int.eq_ofNat_of_zero_le h0
  have hn : n < 18446744073709551616 := by omega
  obtain ⟨hl, hg⟩ := first_byte n hn
  have hk := more_le n
  have e0 : (numB (n : Int) ++ r).getD 0 0 = fb n (more n) := by simp [numB, numK]
  have elen : (numB (n : Int) ++ r).length = more n + 1 + r.length := by simp [numB, numK]; omega
  have eacc : gacc (numB (n : Int) ++ r) (more n) (more n) = n := by
    unfold gacc
    rw [e0, hg]
    have ed : ((numB (n : Int) ++ r).drop 1).take (more n) = (List.range (more n)).map (bt n (more n)) := by
      simp [numB, numK]
    rw [ed, fold_num n (more n) hn (more n) (Nat.le_refl _)]
    simp
  unfold getS
  simp only [Int.toNat_natCast]
  rw [e0, hl, elen, if_neg (by omega), eacc, Int.toNat_natCast, if_pos rfl]

theorem fb_bd (u : Int) (k : Nat) : 0 ≤ fb u k ∧ fb u k ≤ 255 := ⟨bits_lo_u8 _ _ _, bits_hi_u8 _ _ _⟩
theorem numB_isB (u : Int) : IsB (numB u) := by
  refine IsB.cons (fb_bd _ _) fun x hx => ?_
  obtain ⟨i, _, rfl⟩ := List.mem_map.1 hx
  unfold bt
  omega

/-- A text's bytes lead back to it. -/
theorem strOfNums_bytes (l : List UInt8) : strOfNums (l.map fun b => (b.toNat : Int)) = ⟨l.toArray⟩ := by
  unfold strOfNums
  congr 1
  congr 1
  rw [List.map_map]
  conv => rhs; rw [← List.map_id l]
  apply List.map_congr_left
  intro b _
  simp

theorem getTextS_put (ys r : List Int) (h : ys.length < 18446744073709551616) : getTextS (numB ys.length ++ ys ++ r) = (ys, (numB ys.length).length + ys.length) := by
  have hg := getS_numB (ys.length : Int) (by omega) (by omega) (ys ++ r)
  rw [← List.append_assoc] at hg
  unfold getTextS
  rw [hg]
  have hl := numB_length (ys.length : Int)
  simp only [Int.toNat_natCast] at hl ⊢
  rw [if_neg (by simp only [List.length_append]; omega)]
  rw [hl, List.append_assoc, List.drop_left' hl]
  simp

theorem getBoolS_put (b : Bool) (r : List Int) : getBoolS ((if b then (84 : Int) else 70) :: r) = (b, 1) := by
  cases b <;> simp [getBoolS]

end Go.Proofs.YtnbaoimjcaeeaaaGreat

/-
  Contracts: corbelref01.more, Put, Get, Zig, Zag.
-/
namespace Go.Proofs.YtnbaoimjcaeeaaaGreat
open Go.RowKit

theorem more_low (u : Nat) (j : Nat) (h : j < more u) : 2 ^ (7 * (j + 1)) ≤ u := by
  have h1 : more u = 0 ∨ 2 ^ (7 * more u) ≤ u := by
    unfold more
    repeat' split
    all_goals simp
    all_goals omega
  rcases h1 with h1 | h1
  · omega
  · exact Nat.le_trans (Nat.pow_le_pow_right (by decide) (by omega)) h1
theorem pow_small : ∀ j : Fin 8, (2 : Int) ^ (7 * (j.val + 1)) % 18446744073709551616 = 2 ^ (7 * (j.val + 1)) := by decide +kernel

set_option maxHeartbeats 1000000 in
set_option maxRecDepth 10000 in
theorem rmore_any (u : Int) (w : World) (h0 : 0 ≤ u) (h1 : u < 18446744073709551616) :
    Calls Tryz.prog 92 #[.int .u64 u] w fun e w' => e = .returned (.int .i64 (more u.toNat : Nat)) ∧ w' = w := by
  obtain ⟨U, rfl⟩ := Int.eq_ofNat_of_zero_le h0
  have hU : U < 18446744073709551616 := by omega
  have hk := more_le U
  have hlo := fun j => more_low U j
  have hhi := (more_lt U hU).1
  rw [Int.toNat_natCast]
  generalize more U = k at *
  clear h0 h1 hU
  go_enter Tryz.func92, Tryz.ntmps92
  go_wp2
  go_loop [3] (fun t => ∃ j : Nat, j ≤ k ∧ t = .int .i64 j) (fun t => 9 - (intOf t).toNat)
  case atStart => exact ⟨0, Nat.zero_le _, rfl⟩
  case round =>
    obtain ⟨j, hj, rfl⟩ := hrel
    have hj8 : j = 0 ∨ j = 1 ∨ j = 2 ∨ j = 3 ∨ j = 4 ∨ j = 5 ∨ j = 6 ∨ j = 7 ∨ j = 8 := by omega
    rcases hj8 with rfl | rfl | rfl | rfl | rfl | rfl | rfl | rfl | rfl
    · by_cases hlt : 0 < k
      · have h2 : ¬ (U : Int) < (128 : Int) := by have := hlo 0 hlt; omega
        clear hlo hhi
        go_wp2
        go_round
        case rel => exact ⟨1, hlt, by go_num⟩
        case measure => simp [intOf]
      · obtain rfl : k = 0 := by omega
        have h2 : (U : Int) < (128 : Int) := by have := hhi (by omega); omega
        clear hlo hhi
        go_wp2
        go_ret
        exact ⟨rfl, rfl⟩
    · by_cases hlt : 1 < k
      · have h2 : ¬ (U : Int) < (16384 : Int) := by have := hlo 1 hlt; omega
        clear hlo hhi
        go_wp2
        go_round
        case rel => exact ⟨2, hlt, by go_num⟩
        case measure => simp [intOf]
      · obtain rfl : k = 1 := by omega
        have h2 : (U : Int) < (16384 : Int) := by have := hhi (by omega); omega
        clear hlo hhi
        go_wp2
        go_ret
        exact ⟨rfl, rfl⟩
    · by_cases hlt : 2 < k
      · have h2 : ¬ (U : Int) < (2097152 : Int) := by have := hlo 2 hlt; omega
        clear hlo hhi
        go_wp2
        go_round
        case rel => exact ⟨3, hlt, by go_num⟩
        case measure => simp [intOf]
      · obtain rfl : k = 2 := by omega
        have h2 : (U : Int) < (2097152 : Int) := by have := hhi (by omega); omega
        clear hlo hhi
        go_wp2
        go_ret
        exact ⟨rfl, rfl⟩
    · by_cases hlt : 3 < k
      · have h2 : ¬ (U : Int) < (268435456 : Int) := by have := hlo 3 hlt; omega
        clear hlo hhi
        go_wp2
        go_round
        case rel => exact ⟨4, hlt, by go_num⟩
        case measure => simp [intOf]
      · obtain rfl : k = 3 := by omega
        have h2 : (U : Int) < (268435456 : Int) := by have := hhi (by omega); omega
        clear hlo hhi
        go_wp2
        go_ret
        exact ⟨rfl, rfl⟩
    · by_cases hlt : 4 < k
      · have h2 : ¬ (U : Int) < (34359738368 : Int) := by have := hlo 4 hlt; omega
        clear hlo hhi
        go_wp2
        go_round
        case rel => exact ⟨5, hlt, by go_num⟩
        case measure => simp [intOf]
      · obtain rfl : k = 4 := by omega
        have h2 : (U : Int) < (34359738368 : Int) := by have := hhi (by omega); omega
        clear hlo hhi
        go_wp2
        go_ret
        exact ⟨rfl, rfl⟩
    · by_cases hlt : 5 < k
      · have h2 : ¬ (U : Int) < (4398046511104 : Int) := by have := hlo 5 hlt; omega
        clear hlo hhi
        go_wp2
        go_round
        case rel => exact ⟨6, hlt, by go_num⟩
        case measure => simp [intOf]
      · obtain rfl : k = 5 := by omega
        have h2 : (U : Int) < (4398046511104 : Int) := by have := hhi (by omega); omega
        clear hlo hhi
        go_wp2
        go_ret
        exact ⟨rfl, rfl⟩
    · by_cases hlt : 6 < k
      · have h2 : ¬ (U : Int) < (562949953421312 : Int) := by have := hlo 6 hlt; omega
        clear hlo hhi
        go_wp2
        go_round
        case rel => exact ⟨7, hlt, by go_num⟩
        case measure => simp [intOf]
      · obtain rfl : k = 6 := by omega
        have h2 : (U : Int) < (562949953421312 : Int) := by have := hhi (by omega); omega
        clear hlo hhi
        go_wp2
        go_ret
        exact ⟨rfl, rfl⟩
    · by_cases hlt : 7 < k
      · have h2 : ¬ (U : Int) < (72057594037927936 : Int) := by have := hlo 7 hlt; omega
        clear hlo hhi
        go_wp2
        go_round
        case rel => exact ⟨8, hlt, by go_num⟩
        case measure => simp [intOf]
      · obtain rfl : k = 7 := by omega
        have h2 : (U : Int) < (72057594037927936 : Int) := by have := hhi (by omega); omega
        clear hlo hhi
        go_wp2
        go_ret
        exact ⟨rfl, rfl⟩
    · obtain rfl : k = 8 := by omega
      clear hlo hhi
      go_wp2
      go_ret
      exact ⟨rfl, rfl⟩

def onesT : Nat → Int
  | 0 => 0
  | j + 1 => bits BinOp.or .u8 (onesT j) (128 / 2 ^ j)
theorem ones_eq : ∀ k : Fin 9, onesT k.val = bits BinOp.xor .u8 IntKind.u8.max (255 / 2 ^ k.val) := by decide +kernel
theorem ones_bd : ∀ k : Nat, 0 ≤ onesT k ∧ onesT k ≤ 255
  | 0 => by simp [onesT]
  | _ + 1 => ⟨bits_lo_u8 _ _ _, bits_hi_u8 _ _ _⟩
theorem fb_ones (u : Int) (k : Nat) (hk : k ≤ 8) : bits BinOp.or .u8 (onesT k) (u / 2 ^ (8 * k) % 256) = fb u k := by
  have := ones_eq ⟨k, by omega⟩
  simp only at this
  rw [this]
  rfl
theorem fb_eight (u : Int) (h0 : 0 ≤ u) (h1 : u < 18446744073709551616) : onesT 8 = fb u 8 := by
  unfold fb
  rw [show u / 2 ^ (8 * 8) % 256 = 0 by omega]
  decide +kernel

theorem range_step2 (xs : List Int) (a : Int) (f : Nat → Int) (j : Nat) : (xs ++ a :: (List.range j).map f) ++ [f j] = xs ++ a :: (List.range (j + 1)).map f := by
  simp [List.range_succ]

set_option maxRecDepth 100000 in
set_option maxHeartbeats 1000000 in
theorem rput_cod (v : Value) (xs : List Int) (u : Int) (w : World) (hv : Has w v xs) (hl : xs.length ≤ 1099511620000) (h0 : 0 ≤ u) (h1 : u < 18446744073709551616) :
    Calls Tryz.prog 59 #[v, .int .u64 u] w fun e w' => ∃ v', e = .returned v' ∧ Owns w' w.heap.size 5 v' (xs ++ numB u) ∧ Below w.heap.size w w' := by
  obtain ⟨i0, hi, hz0, hz1, hz2⟩ := info_parts info8c
  have hk := more_le u.toNat
  have HF := fun k hk => fb_ones u k hk
  have HE : Hid (onesT 8 = fb u 8) := fb_eight u h0 h1
  have HOB := ones_bd
  have HO0 : Hid (onesT 0 = 0) := rfl
  have HOS : ∀ j, Hid (onesT (j + 1) = bits BinOp.or .u8 (onesT j) (128 / 2 ^ j)) := fun _ => rfl
  unfold numB
  generalize onesT = O at *
  generalize hkk : more u.toNat = k at *
  have HK : Hid (more u.toNat = k) := hkk
  clear hkk
  have HFk : Hid (bits BinOp.or .u8 (O k) (u / 2 ^ (8 * k) % 256) = fb u k) := HF k hk
  clear HF
  go_enter Tryz.func59, Tryz.ntmps59
  go_wp2_with (first
    | (at_builtin; refine ap_slice _ rfl (.tmp 10) (.tmp 11) 22 rfl w.heap.size 5 i0 Tryz.underlying22 hi hz0 hz1 hz2 _ [] xs rfl (by exact hv.below ((Below.refl w.heap.size w).alloc (Nat.le_refl _) _) (Nat.le_refl _)) (by exact Owns.empty w w.heap.size _ (Nat.le_refl _)) (by simp) (by omega) (by simp) ?_; intro v1 w1 ho1 hb1; rw [List.nil_append] at ho1)
    | (go_at_call 92; refine same_mono (rmore_any _ _ h0 h1) ?_; rw [HK.out]))
  have hb01 : Below w.heap.size w w1 := ((Below.refl w.heap.size w).alloc (Nat.le_refl _) _).trans hb1
  clear hb1
  go_loop [7, 8] (fun t i => ∃ j : Nat, j ≤ k ∧ i = .int .i64 j ∧ t = .int .u8 (O j)) (fun _ i => k - (intOf i).toNat)
  case atStart => exact ⟨0, Nat.zero_le _, rfl, by rw [HO0.out]⟩
  case round =>
    obtain ⟨j, hj, rfl, rfl⟩ := hrel
    have hob := HOB j
    have HOj := HOS j
    clear HOB HOS
    by_cases hlt : j < k
    · go_wp2
      go_round
      case rel => exact ⟨j + 1, by omega, by go_num, by rw [HOj.out]⟩
      case measure => simp [intOf]; omega
    · obtain rfl : j = k := by omega
      by_cases h8 : j < 8
      · go_wp2_with (at_builtin; refine ap_one _ rfl (.tmp 35) (.tmp 37) 22 rfl w.heap.size 5 i0 Tryz.underlying22 hi hz0 hz1 hz2 _ xs _ rfl rfl (by exact ho1) (by omega) hb01.size ?_; intro v2 w2 ho2 hb2)
        rw [HFk.out] at ho2
        have hb02 : Below w.heap.size w w2 := hb01.trans hb2
        clear ho1 hb2 hb01
        go_loopw [5, 9] (fun vv i wr => ∃ m : Nat, m ≤ j ∧ i = .int .i64 ((j : Int) - 1 - m) ∧ Owns wr w.heap.size 5 vv (xs ++ fb u j :: (List.range m).map (bt u j)) ∧ Below w.heap.size w wr) (fun _ i _ => (intOf i + 1).toNat)
        case atStart => exact ⟨0, Nat.zero_le _, by go_num, ho2, hb02⟩
        case round =>
          obtain ⟨m, hm, rfl, hr, hbr⟩ := hrel
          by_cases hlt2 : m < j
          · have e9 : ((j : Int) - 1 - (m : Int)) = ((j - 1 - m : Nat) : Int) := by omega
            have E9 : Hid (((j : Int) - 1 - (m : Int)) = ((j - 1 - m : Nat) : Int)) := e9
            rw [e9]
            clear e9
            go_wp2_with (at_builtin; refine ap_one _ rfl (.tmp 45) (.tmp 52) 22 rfl w.heap.size 5 i0 Tryz.underlying22 hi hz0 hz1 hz2 _ _ (bt u j m) rfl rfl (by exact hr) (by simp; omega) hbr.size ?_; intro v3 w3 ho3 hb3)
            go_roundw
            case rel => exact ⟨m + 1, by omega, by go_num, by rw [← range_step2]; exact ho3, hbr.trans hb3⟩
            case measure => (simp [intOf]; try omega)
          · obtain rfl : m = j := by omega
            go_wp2
            go_ret
            exact ⟨_, rfl, hr, hbr⟩
      · obtain rfl : j = 8 := by omega
        go_wp2_with (at_builtin; refine ap_one _ rfl (.tmp 35) (.tmp 37) 22 rfl w.heap.size 5 i0 Tryz.underlying22 hi hz0 hz1 hz2 _ xs _ rfl rfl (by exact ho1) (by omega) hb01.size ?_; intro v2 w2 ho2 hb2)
        rw [HE.out] at ho2
        have hb02 : Below w.heap.size w w2 := hb01.trans hb2
        clear ho1 hb2 hb01
        go_loopw [5, 9] (fun vv i wr => ∃ m : Nat, m ≤ 8 ∧ i = .int .i64 (((8 : Nat) : Int) - 1 - m) ∧ Owns wr w.heap.size 5 vv (xs ++ fb u 8 :: (List.range m).map (bt u 8)) ∧ Below w.heap.size w wr) (fun _ i _ => (intOf i + 1).toNat)
        case atStart => exact ⟨0, Nat.zero_le _, by go_num, ho2, hb02⟩
        case round =>
          obtain ⟨m, hm, rfl, hr, hbr⟩ := hrel
          by_cases hlt2 : m < 8
          · have e9 : (((8 : Nat) : Int) - 1 - (m : Int)) = ((8 - 1 - m : Nat) : Int) := by omega
            have E9 : Hid ((((8 : Nat) : Int) - 1 - (m : Int)) = ((8 - 1 - m : Nat) : Int)) := e9
            rw [e9]
            clear e9
            go_wp2_with (at_builtin; refine ap_one _ rfl (.tmp 45) (.tmp 52) 22 rfl w.heap.size 5 i0 Tryz.underlying22 hi hz0 hz1 hz2 _ _ (bt u 8 m) rfl rfl (by exact hr) (by simp; omega) hbr.size ?_; intro v3 w3 ho3 hb3)
            go_roundw
            case rel => exact ⟨m + 1, by omega, by go_num, by rw [← range_step2]; exact ho3, hbr.trans hb3⟩
            case measure => (simp [intOf]; try omega)
          · obtain rfl : m = 8 := by omega
            go_wp2
            go_ret
            exact ⟨_, rfl, hr, hbr⟩
end Go.Proofs.YtnbaoimjcaeeaaaGreat
