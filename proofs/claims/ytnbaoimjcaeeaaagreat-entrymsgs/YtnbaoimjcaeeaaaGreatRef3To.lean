import Derived.Test.YtnbaoimjcaeeaaaGreatRef1To
/-
  Contracts: corbelref01.Zig, Zag, Get.
-/
namespace Go.Proofs.YtnbaoimjcaeeaaaGreat
open Go.RowKit

theorem or_comm64 (a b : Int) : bits BinOp.or .u64 a b = bits BinOp.or .u64 b a := by
  unfold bits
  simp only [BitVec.or_comm]

set_option maxRecDepth 100000 in
set_option maxHeartbeats 1000000 in
theorem rzig_any (n : Int) (w : World) :
    Calls Tryz.prog 91 #[.int .i64 n] w fun e w' => e = .returned (.int .u64 (zigS n)) ∧ w' = w := by
  go_enter Tryz.func91, Tryz.ntmps91
  go_wp2
  go_ret
  exact ⟨rfl, rfl⟩

set_option maxRecDepth 100000 in
set_option maxHeartbeats 1000000 in
theorem rzag_any (u : Int) (w : World) :
    Calls Tryz.prog 76 #[.int .u64 u] w fun e w' => e = .returned (.int .i64 (zagS u)) ∧ w' = w := by
  go_enter Tryz.func76, Tryz.ntmps76
  go_wp2
  go_ret
  exact ⟨ret_int (by rw [zagS, rotR, or_comm64]), rfl⟩

/-- The ones ahead of a first byte, one after the other. -/
theorem lead_bit : ∀ x : Fin 256, ∀ j : Fin 8, j.val ≤ lead x.val → (bits BinOp.and .u8 ((x.val : Int) / 2 ^ (7 - j.val)) 1 == 1) = decide (j.val < lead x.val) := by decide +kernel
theorem g0_seven : ∀ x : Fin 256, ∀ k : Fin 9, 7 ≤ k.val → g0 x.val k.val = 0 := by decide +kernel

set_option maxRecDepth 100000 in
set_option maxHeartbeats 2000000 in
theorem rget_cod (v : Value) (xs : List Int) (w : World) (hv : Has w v xs) (hB : IsB xs) (hl : xs.length ≤ 1099511627776) :
    Calls Tryz.prog 110 #[v] w fun e w' => e = .returned (.tuple #[.int .u64 (getS xs).1, .int .i64 ((getS xs).2 : Nat)]) ∧ w' = w := by
  obtain ⟨p, c, rfl, hc, hnone, hcell⟩ := hv
  clear hnone
  rcases Nat.eq_zero_or_pos xs.length with hn | hn
  · obtain rfl : xs = [] := List.eq_nil_of_length_eq_zero hn
    go_enter Tryz.func110, Tryz.ntmps110
    go_wp2
    go_ret2
    exact ⟨rfl, rfl⟩
  · obtain ⟨b, o, rfl, hbl, hcl⟩ := hcell hn
    have hx := hB.getD 0
    have hc0 := hcl 0 hn
    rw [Nat.add_zero] at hc0
    have hne : ¬ xs = [] := fun h => by rw [h] at hn; simp at hn
    have hnb : ((xs.length : Int) == 0) = false := by rw [beq_eq_false_iff_ne]; omega
    have hk := lead_le (xs.getD 0 0)
    have HS : Hid (getS xs = if xs.length ≤ lead (xs.getD 0 0) then (0, 0)
      else if lead (xs.getD 0 0) = more (gacc xs (lead (xs.getD 0 0)) (lead (xs.getD 0 0))).toNat then (gacc xs (lead (xs.getD 0 0)) (lead (xs.getD 0 0)), lead (xs.getD 0 0) + 1)
      else (0, 0)) := rfl
    have HG : ∀ k, Hid (gacc xs k 0 = g0 (xs.getD 0 0) k) := gacc_zero xs
    have LB : Hid (∀ j, j < 8 → j ≤ lead (xs.getD 0 0) → (bits BinOp.and .u8 ((xs.getD 0 0) / 2 ^ (7 - j)) 1 == 1) = decide (j < lead (xs.getD 0 0))) := fun j hj h => by
      obtain ⟨n, hn'⟩ := Int.eq_ofNat_of_zero_le hx.1
      rw [hn'] at h hx ⊢
      exact lead_bit ⟨n, by omega⟩ ⟨j, hj⟩ h
    have G7 : Hid (∀ k, k ≤ 8 → 7 ≤ k → g0 (xs.getD 0 0) k = 0) := fun k hk h => by
      obtain ⟨n, hn'⟩ := Int.eq_ofNat_of_zero_le hx.1
      rw [hn'] at hx ⊢
      exact g0_seven ⟨n, by omega⟩ ⟨k, by omega⟩ h
    have HAS := gacc_succ xs
    have HAB := gacc_bd xs
    have hBj := fun j => hB.getD j
    generalize xs.getD 0 0 = x at *
    generalize hlx : lead x = k at *
    have HLX : Hid (lead x = k) := hlx
    clear hlx hB hcell
    have hg0 := g0_bd x k
    have hG0 : Hid (gacc xs k 0 = g0 x k) := HG k
    have HA : ∀ j, j + 1 < xs.length → Hid (gacc xs k (j + 1) = gs (gacc xs k j) (xs.getD (j + 1) 0)) := fun j h => HAS k j h
    have HAB2 := HAB k
    clear HG HAS HAB
    generalize gacc xs k = G at *
    go_enter Tryz.func110, Tryz.ntmps110
    go_wp2
    go_loop [4] (fun t => ∃ j : Nat, j ≤ k ∧ t = .int .i64 j) (fun t => 9 - (intOf t).toNat)
    case atStart => exact ⟨0, Nat.zero_le _, rfl⟩
    case round =>
      obtain ⟨j, hj, rfl⟩ := hrel
      by_cases hlt : j < k
      · have hbit := LB.out j (by omega) hj
        rw [decide_eq_true hlt] at hbit
        go_wp2
        go_round
        case rel => exact ⟨j + 1, by omega, by go_num⟩
        case measure => simp [intOf]; omega
      · obtain rfl : j = k := by omega
        have hb8 : j < 8 → (bits BinOp.and .u8 (x / 2 ^ (7 - j)) 1 == 1) = false := fun h => by
          have := LB.out j h (Nat.le_refl _)
          rwa [decide_eq_false (Nat.lt_irrefl _)] at this
        have hG7 : 7 ≤ j → G 0 = 0 := fun h => by rw [hG0.out]; exact G7.out j hk h
        clear LB G7
        have hcls : (j < 7 ∧ j < 8) ∨ (7 ≤ j ∧ j < 8) ∨ (7 ≤ j ∧ 8 ≤ j) := by omega
        by_cases hlk : xs.length ≤ j
        · have HS0 : Hid (getS xs = (0, 0)) := by rw [Hid, HS.out, if_pos hlk]
          clear HS HA HAB2 hBj hcl
          rcases hcls with ⟨h7, h8⟩ | ⟨h7, h8⟩ | ⟨h7, h8⟩
          · have hbit := hb8 h8
            clear hb8 hG7
            go_wp2
            go_ret2
            rw [HS0.out]
            exact ⟨rfl, rfl⟩
          · obtain rfl : j = 7 := by omega
            have hbit : (bits BinOp.and .u8 x 1 == 1) = false := by have := hb8 h8; rwa [show x / 2 ^ (7 - 7) = x by simp] at this
            clear hb8 hG7
            go_wp2
            go_ret2
            rw [HS0.out]
            exact ⟨rfl, rfl⟩
          · clear hb8 hG7
            go_wp2
            go_ret2
            rw [HS0.out]
            exact ⟨rfl, rfl⟩
        · have hGz : j < 7 → Hid (G 0 = bits BinOp.and .u8 x (127 / 2 ^ j)) := fun _ => by rw [Hid, hG0.out]; rfl
          unfold g0 at hg0
          rcases hcls with ⟨h7, h8⟩ | ⟨h7, h8⟩ | ⟨h7, h8⟩
          all_goals
            have hst : ∀ m, m < j → Hid (G (m + 1) = gs (G m) (xs.getD (m + 1) 0)) := fun m h => HA m (by omega)
            clear HA
          · have hbit := hb8 h8
            have hz := hGz h7
            clear hb8 hG7 hGz
            go_wp2
            go_loop [5, 6] (fun t i => ∃ m : Nat, m ≤ j ∧ i = .int .i64 ((m : Int) + 1) ∧ t = .int .u64 (G m)) (fun _ i => j + 1 - (intOf i).toNat)
            case atStart => exact ⟨0, Nat.zero_le _, by go_num, by rw [hz.out]⟩
            case round =>
              obtain ⟨m, hm, rfl, rfl⟩ := hrel
              have hGb := HAB2 m
              by_cases hlt2 : m < j
              · have h1 := hcl (m + 1) (by omega)
                have hb1 := hBj (m + 1)
                have HAj := hst m hlt2
                clear hcl hBj HAB2 hst
                generalize xs.getD (m + 1) 0 = y at *
                go_wp2
                go_round
                case rel => exact ⟨m + 1, by omega, by go_num, by rw [HAj.out]; rfl⟩
                case measure => simp [intOf]; omega
              · obtain rfl : m = j := by omega
                clear hcl hBj HAB2 hst
                by_cases hmm : m = more (G m).toNat
                · have hmb : ((more (G m).toNat : Int) != (m : Int)) = false := by rw [← hmm]; simp
                  have HM : Hid (m = more (G m).toNat) := hmm
                  clear hmm
                  go_wp2_with (go_at_call 92; refine same_mono (rmore_any _ _ (by omega) (by omega)) ?_)
                  go_ret2
                  rw [HS.out, if_neg hlk, if_pos HM.out]
                  exact ⟨rfl, rfl⟩
                · have hmb : ((more (G m).toNat : Int) != (m : Int)) = true := by rw [bne_iff_ne]; omega
                  go_wp2_with (go_at_call 92; refine same_mono (rmore_any _ _ (by omega) (by omega)) ?_)
                  go_ret2
                  rw [HS.out, if_neg hlk, if_neg hmm]
                  exact ⟨rfl, rfl⟩
          · obtain rfl : j = 7 := by omega
            have hbit : (bits BinOp.and .u8 x 1 == 1) = false := by have := hb8 h8; rwa [show x / 2 ^ (7 - 7) = x by simp] at this
            have hz : Hid (G 0 = 0) := hG7 h7
            clear hb8 hG7 hGz
            go_wp2
            go_loop [5, 6] (fun t i => ∃ m : Nat, m ≤ 7 ∧ i = .int .i64 ((m : Int) + 1) ∧ t = .int .u64 (G m)) (fun _ i => 7 + 1 - (intOf i).toNat)
            case atStart => exact ⟨0, Nat.zero_le _, by go_num, by rw [hz.out]⟩
            case round =>
              obtain ⟨m, hm, rfl, rfl⟩ := hrel
              have hGb := HAB2 m
              by_cases hlt2 : m < 7
              · have h1 := hcl (m + 1) (by omega)
                have hb1 := hBj (m + 1)
                have HAj := hst m hlt2
                clear hcl hBj HAB2 hst
                generalize xs.getD (m + 1) 0 = y at *
                go_wp2
                go_round
                case rel => exact ⟨m + 1, by omega, by go_num, by rw [HAj.out]; rfl⟩
                case measure => simp [intOf]; omega
              · obtain rfl : m = 7 := by omega
                clear hcl hBj HAB2 hst
                by_cases hmm : 7 = more (G 7).toNat
                · have hmb : ((more (G 7).toNat : Int) != 7) = false := by rw [← hmm]; simp
                  have HM : Hid (7 = more (G 7).toNat) := hmm
                  clear hmm
                  go_wp2_with (go_at_call 92; refine same_mono (rmore_any _ _ (by omega) (by omega)) ?_)
                  go_ret2
                  rw [HS.out, if_neg hlk, if_pos HM.out]
                  exact ⟨rfl, rfl⟩
                · have hmb : ((more (G 7).toNat : Int) != 7) = true := by rw [bne_iff_ne]; omega
                  go_wp2_with (go_at_call 92; refine same_mono (rmore_any _ _ (by omega) (by omega)) ?_)
                  go_ret2
                  rw [HS.out, if_neg hlk, if_neg hmm]
                  exact ⟨rfl, rfl⟩
          · have hz : Hid (G 0 = 0) := hG7 h7
            clear hb8 hG7 hGz
            go_wp2
            go_loop [5, 6] (fun t i => ∃ m : Nat, m ≤ j ∧ i = .int .i64 ((m : Int) + 1) ∧ t = .int .u64 (G m)) (fun _ i => j + 1 - (intOf i).toNat)
            case atStart => exact ⟨0, Nat.zero_le _, by go_num, by rw [hz.out]⟩
            case round =>
              obtain ⟨m, hm, rfl, rfl⟩ := hrel
              have hGb := HAB2 m
              by_cases hlt2 : m < j
              · have h1 := hcl (m + 1) (by omega)
                have hb1 := hBj (m + 1)
                have HAj := hst m hlt2
                clear hcl hBj HAB2 hst
                generalize xs.getD (m + 1) 0 = y at *
                go_wp2
                go_round
                case rel => exact ⟨m + 1, by omega, by go_num, by rw [HAj.out]; rfl⟩
                case measure => simp [intOf]; omega
              · obtain rfl : m = j := by omega
                clear hcl hBj HAB2 hst
                by_cases hmm : m = more (G m).toNat
                · have hmb : ((more (G m).toNat : Int) != (m : Int)) = false := by rw [← hmm]; simp
                  have HM : Hid (m = more (G m).toNat) := hmm
                  clear hmm
                  go_wp2_with (go_at_call 92; refine same_mono (rmore_any _ _ (by omega) (by omega)) ?_)
                  go_ret2
                  rw [HS.out, if_neg hlk, if_pos HM.out]
                  exact ⟨rfl, rfl⟩
                · have hmb : ((more (G m).toNat : Int) != (m : Int)) = true := by rw [bne_iff_ne]; omega
                  go_wp2_with (go_at_call 92; refine same_mono (rmore_any _ _ (by omega) (by omega)) ?_)
                  go_ret2
                  rw [HS.out, if_neg hlk, if_neg hmm]
                  exact ⟨rfl, rfl⟩
end Go.Proofs.YtnbaoimjcaeeaaaGreat

/-
  Contracts: corbelref01.GetText, GetBool, PutText, PutBool.
-/
namespace Go.Proofs.YtnbaoimjcaeeaaaGreat
open Go.RowKit

set_option maxRecDepth 100000 in
set_option maxHeartbeats 1000000 in
theorem rgetText_any (v : Value) (xs : List Int) (w : World) (hv : Has w v xs) (hB : IsB xs) (hl : xs.length ≤ 1099511627776) :
    Calls Tryz.prog 105 #[v] w fun e w' => e = .returned (.tuple #[.string (strOfNums (getTextS xs).1), .int .i64 ((getTextS xs).2 : Nat)]) ∧ Below w.heap.size w w' := by
  have hget := (rget_cod v xs w hv hB hl).mono (R' := fun e w' => e = .returned (.tuple #[.int .u64 (getS xs).1, .int .i64 ((getS xs).2 : Nat)]) ∧ Below w.heap.size w w') fun e w' ⟨h1, h2⟩ => ⟨h1, by subst h2; exact Below.refl _ _⟩
  have hbd := getS_bd xs
  have HT : Hid (getTextS xs = if (getS xs).2 = 0 ∨ (xs.length : Int) - (getS xs).2 < (getS xs).1 then ([], 0) else ((xs.drop (getS xs).2).take (getS xs).1.toNat, (getS xs).2 + (getS xs).1.toNat)) := rfl
  obtain ⟨p, c, rfl, hc, hnone, hcell⟩ := id hv
  clear hnone
  generalize getS xs = g at *
  obtain ⟨u, n⟩ := g
  obtain ⟨h0, h1, h2, h3⟩ := hbd
  simp only at h0 h1 h2 h3 HT hget
  obtain ⟨U, rfl⟩ := Int.eq_ofNat_of_zero_le h0
  have HGt : Hid (Calls Tryz.prog 110 #[.slice p xs.length c] w fun e w' => e = .returned (.tuple #[.int .u64 (U : Int), .int .i64 (n : Nat)]) ∧ Below w.heap.size w w') := hget
  clear hget
  by_cases hn0 : n = 0
  · have HT0 : Hid (getTextS xs = ([], 0)) := by rw [Hid, HT.out, if_pos (Or.inl hn0)]
    clear HT
    subst hn0
    go_enter Tryz.func105, Tryz.ntmps105
    go_wp2_with (go_at_call 110; refine HGt.out.mono ?_; rintro e w1 ⟨rfl, hb1⟩)
    go_ret2
    rw [HT0.out]
    exact ⟨rfl, hb1⟩
  · have hnb : ((n : Int) == 0) = false := by simp; omega
    by_cases hlt : (xs.length : Int) - n < U
    · have HT0 : Hid (getTextS xs = ([], 0)) := by rw [Hid, HT.out, if_pos (Or.inr hlt)]
      clear HT
      go_enter Tryz.func105, Tryz.ntmps105
      go_wp2_with (go_at_call 110; refine HGt.out.mono ?_; rintro e w1 ⟨rfl, hb1⟩)
      go_ret2
      rw [HT0.out]
      exact ⟨rfl, hb1⟩
    · have HT0 : Hid (getTextS xs = ((xs.drop n).take U, n + U)) := by rw [Hid, HT.out, if_neg (by omega)]; rfl
      clear HT
      obtain ⟨b, o, rfl, hbl, _⟩ := hcell (by omega)
      clear hcell
      by_cases hcn : c = n
      · obtain rfl : U = 0 := by omega
        subst hcn
        have CV : Hid (∀ w1, (convert 22 9 (.slice (some ⟨b, o, none⟩) 0 0)).run Tryz.prog w1 = .ok (.string (strOfNums [])) w1) := fun w1 =>
          (Has.empty w1 (some ⟨b, o, none⟩) 0 (fun _ => rfl)).conv (P := Tryz.prog) 22 5 9 Tryz.underlying22 Tryz.underlying5 Tryz.underlying9
        go_enter Tryz.func105, Tryz.ntmps105
        go_wp2_with (go_at_call 110; refine HGt.out.mono ?_; rintro e w1 ⟨rfl, hb1⟩; have cv1 := CV.out w1)
        go_ret2
        rw [HT0.out]
        exact ⟨rfl, hb1⟩
      · have CV : Hid (∀ w1, Below w.heap.size w w1 → (convert 22 9 (.slice (some ⟨b, o + n, none⟩) U (c - n))).run Tryz.prog w1 = .ok (.string (strOfNums ((xs.drop n).take U))) w1) := fun w1 hb =>
          ((hv.below hb (Nat.le_refl _)).cutAt n U (by omega)).conv (P := Tryz.prog) 22 5 9 Tryz.underlying22 Tryz.underlying5 Tryz.underlying9
        go_enter Tryz.func105, Tryz.ntmps105
        go_wp2_with (go_at_call 110; refine HGt.out.mono ?_; rintro e w1 ⟨rfl, hb1⟩; have cv1 := CV.out w1 hb1)
        go_ret2
        rw [HT0.out]
        exact ⟨rfl, hb1⟩

set_option maxRecDepth 100000 in
set_option maxHeartbeats 1000000 in
theorem rgetBool_any (v : Value) (xs : List Int) (w : World) (hv : Has w v xs) (hB : IsB xs) (hl : xs.length ≤ 1099511627776) :
    Calls Tryz.prog 82 #[v] w fun e w' => e = .returned (.tuple #[.bool (getBoolS xs).1, .int .i64 ((getBoolS xs).2 : Nat)]) ∧ w' = w := by
  have HT : Hid (getBoolS xs = if xs.length = 0 ∨ (xs.getD 0 0 ≠ 84 ∧ xs.getD 0 0 ≠ 70) then (false, 0) else (xs.getD 0 0 == 84, 1)) := rfl
  obtain ⟨p, c, rfl, hc, hnone, hcell⟩ := id hv
  clear hnone
  rcases Nat.eq_zero_or_pos xs.length with hn | hn
  · obtain rfl : xs = [] := List.eq_nil_of_length_eq_zero hn
    go_enter Tryz.func82, Tryz.ntmps82
    go_wp2
    go_ret2
    exact ⟨rfl, rfl⟩
  · obtain ⟨b, o, rfl, hbl, hcl⟩ := hcell hn
    have h1 := hcl 0 hn
    rw [Nat.add_zero] at h1
    clear hcl hcell hB
    have hne : ¬ xs = [] := fun h => by rw [h] at hn; simp at hn
    have hnb : ((xs.length : Int) == 0) = false := by simp; omega
    generalize xs.getD 0 0 = x at *
    by_cases h84 : x = 84
    · have HT0 : Hid (getBoolS xs = (true, 1)) := by rw [Hid, HT.out, if_neg (by omega), h84]; rfl
      clear HT
      subst h84
      go_enter Tryz.func82, Tryz.ntmps82
      go_wp2
      go_ret2
      rw [HT0.out]
      exact ⟨rfl, rfl⟩
    · by_cases h70 : x = 70
      · have HT0 : Hid (getBoolS xs = (false, 1)) := by rw [Hid, HT.out, if_neg (by omega), h70]; rfl
        clear HT
        subst h70
        go_enter Tryz.func82, Tryz.ntmps82
        go_wp2
        go_ret2
        rw [HT0.out]
        exact ⟨rfl, rfl⟩
      · have HT0 : Hid (getBoolS xs = (false, 0)) := by rw [Hid, HT.out, if_pos (by omega)]
        clear HT
        have e1 : (x != 84) = true := by simp; omega
        have e2 : (x != 70) = true := by simp; omega
        go_enter Tryz.func82, Tryz.ntmps82
        go_wp2
        go_ret2
        rw [HT0.out]
        exact ⟨rfl, rfl⟩

set_option maxRecDepth 100000 in
set_option maxHeartbeats 1000000 in
theorem rputText_any (v : Value) (xs : List Int) (s : ByteArray) (w : World) (hv : Has w v xs) (hl : xs.length ≤ 1073741824) (hs : s.size ≤ 1073741824) :
    Calls Tryz.prog 93 #[v, .string s] w fun e w' => ∃ v', e = .returned v' ∧ Owns w' w.heap.size 5 v' (xs ++ textB s) ∧ Below w.heap.size w w' := by
  obtain ⟨i0, hi, hz0, hz1, hz2⟩ := info_parts info8c
  have hnl := numB_le s.size
  go_enter Tryz.func93, Tryz.ntmps93
  go_wp2_with (first
    | (go_at_call 59; refine (rput_cod _ xs (s.size : Int) _ hv (by omega) (by omega) (by omega)).mono ?_; rintro e w2 ⟨v2, rfl, ho2, hb2⟩)
    | (at_builtin; refine ap_text _ rfl (.tmp 9) (.tmp 10) 22 9 rfl w.heap.size 5 i0 Tryz.underlying22 Tryz.underlying9 hi hz0 hz1 hz2 _ _ s rfl rfl (by exact ho2) (by rw [List.length_append]; omega) (by omega) (by exact hb2.size) ?_; intro v3 w3 ho3 hb3))
  go_ret
  exact ⟨_, rfl, by rw [textB, ← List.append_assoc]; exact ho3, hb2.trans hb3⟩

set_option maxRecDepth 100000 in
set_option maxHeartbeats 1000000 in
theorem rputBool_any (v : Value) (xs : List Int) (b : Bool) (w : World) (hv : Has w v xs) (hl : xs.length ≤ 1073741824) :
    Calls Tryz.prog 58 #[v, .bool b] w fun e w' => ∃ v', e = .returned v' ∧ Owns w' w.heap.size 5 v' (xs ++ [boolB b]) ∧ Below w.heap.size w w' := by
  obtain ⟨i0, hi, hz0, hz1, hz2⟩ := info_parts info8c
  cases b
  · go_enter Tryz.func58, Tryz.ntmps58
    go_wp2_with (first
      | (at_builtin; refine ap_slice _ rfl (.tmp 11) (.tmp 12) 22 rfl w.heap.size 5 i0 Tryz.underlying22 hi hz0 hz1 hz2 _ [] xs rfl (by exact hv.below ((Below.refl w.heap.size w).alloc (Nat.le_refl _) _) (Nat.le_refl _)) (by exact Owns.empty w w.heap.size _ (Nat.le_refl _)) (by simp) (by omega) (by simp) ?_; intro v1 w1 ho1 hb1; rw [List.nil_append] at ho1)
      | (at_builtin; refine ap_one _ rfl (.tmp 13) (.tmp 14) 22 rfl w.heap.size 5 i0 Tryz.underlying22 hi hz0 hz1 hz2 _ xs 70 rfl rfl (by exact ho1) (by omega) (by have := hb1.size; simp at this; omega) ?_; intro v2 w2 ho2 hb2))
    go_ret
    exact ⟨_, rfl, ho2, (((Below.refl w.heap.size w).alloc (Nat.le_refl _) _).trans hb1).trans hb2⟩
  · go_enter Tryz.func58, Tryz.ntmps58
    go_wp2_with (first
      | (at_builtin; refine ap_slice _ rfl (.tmp 6) (.tmp 7) 22 rfl w.heap.size 5 i0 Tryz.underlying22 hi hz0 hz1 hz2 _ [] xs rfl (by exact hv.below ((Below.refl w.heap.size w).alloc (Nat.le_refl _) _) (Nat.le_refl _)) (by exact Owns.empty w w.heap.size _ (Nat.le_refl _)) (by simp) (by omega) (by simp) ?_; intro v1 w1 ho1 hb1; rw [List.nil_append] at ho1)
      | (at_builtin; refine ap_one _ rfl (.tmp 8) (.tmp 9) 22 rfl w.heap.size 5 i0 Tryz.underlying22 hi hz0 hz1 hz2 _ xs 84 rfl rfl (by exact ho1) (by omega) (by have := hb1.size; simp at this; omega) ?_; intro v2 w2 ho2 hb2))
    go_ret
    exact ⟨_, rfl, ho2, (((Below.refl w.heap.size w).alloc (Nat.le_refl _) _).trans hb1).trans hb2⟩
end Go.Proofs.YtnbaoimjcaeeaaaGreat
