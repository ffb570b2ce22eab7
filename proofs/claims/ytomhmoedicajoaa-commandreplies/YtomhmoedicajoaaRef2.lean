/-
  Contracts: corbelref01.Zig, Zag, Get.
-/
import Derived.Test.YtomhmoedicajoaaRef1
namespace Go.Proofs.Ytomhmoedicajoaa
open Go.RowKit

theorem or_comm64 (a b : Int) : bits BinOp.or .u64 a b = bits BinOp.or .u64 b a := by
  unfold bits
  simp only [BitVec.or_comm]

set_option maxRecDepth 100000 in
set_option maxHeartbeats 1000000 in
theorem rzig_any (n : Int) (w : World) :
    Calls Try.prog 36 #[.int .i64 n] w fun e w' => e = .returned (.int .u64 (zigS n)) ∧ w' = w := by
  go_enter Try.func36, Try.ntmps36
  go_wp2
  go_ret
  exact ⟨rfl, rfl⟩

set_option maxRecDepth 100000 in
set_option maxHeartbeats 1000000 in
theorem rzag_any (u : Int) (w : World) :
    Calls Try.prog 75 #[.int .u64 u] w fun e w' => e = .returned (.int .i64 (zagS u)) ∧ w' = w := by
  go_enter Try.func75, Try.ntmps75
  go_wp2
  go_ret
  exact ⟨ret_int (by rw [zagS, rotR, or_comm64]), rfl⟩

/-- The ones ahead of a first byte, one after the other. -/
theorem lead_bit : ∀ x : Fin 256, ∀ j : Fin 8, j.val ≤ lead x.val → (bits BinOp.and .u8 ((x.val : Int) / 2 ^ (7 - j.val)) 1 == 1) = decide (j.val < lead x.val) := by decide +kernel
theorem g0_seven : ∀ x : Fin 256, ∀ k : Fin 9, 7 ≤ k.val → g0 x.val k.val = 0 := by decide +kernel

set_option maxRecDepth 100000 in
set_option maxHeartbeats 2000000 in
theorem rget_cod (v : Value) (xs : List Int) (w : World) (hv : Has w v xs) (hB : IsB xs) (hl : xs.length ≤ 1099511627776) :
    Calls Try.prog 82 #[v] w fun e w' => e = .returned (.tuple #[.int .u64 (getS xs).1, .int .i64 ((getS xs).2 : Nat)]) ∧ w' = w := by
  obtain ⟨p, c, rfl, hc, hnone, hcell⟩ := hv
  clear hnone
  rcases Nat.eq_zero_or_pos xs.length with hn | hn
  · obtain rfl : xs = [] := List.eq_nil_of_length_eq_zero hn
    go_enter Try.func82, Try.ntmps82
    go_wp2
    go_ret2
    exact ⟨rfl, rfl⟩
  · obtain ⟨b, o, rfl, hbl, hcl⟩ := hcell hn
    have hx := hB.getD 0
    have hc0 := hcl 0 hn
    rw [Nat.add_zero] at hc0
    have hne : ¬ xs = [] := fun h => by rw [h] at hn; simp at hn
    have hnb : ((xs.length : Int) == 0) = false := by rw [beq_eq_false_iff_ne]; omega
    have hk := lead_le (xs.getD 0 0)
    have HS : Hid (getS xs = if xs.length ≤ lead (xs.getD 0 0) then (0, 0)
      else if lead (xs.getD 0 0) = more (gacc xs (lead (xs.getD 0 0)) (lead (xs.getD 0 0))).toNat then (gacc xs (lead (xs.getD 0 0)) (lead (xs.getD 0 0)), lead (xs.getD 0 0) + 1)
      else (0, 0)) := rfl
    have HG : ∀ k, Hid (gacc xs k 0 = g0 (xs.getD 0 0) k) := gacc_zero xs
    have LB : Hid (∀ j, j < 8 → j ≤ lead (xs.getD 0 0) → (bits BinOp.and .u8 ((xs.getD 0 0) / 2 ^ (7 - j)) 1 == 1) = decide (j < lead (xs.getD 0 0))) := fun j hj h => by
      obtain ⟨n, hn'⟩ := Int.eq_ofNat_of_zero_le hx.1
      rw [hn'] at h hx ⊢
      exact lead_bit ⟨n, by omega⟩ ⟨j, hj⟩ h
    have G7 : Hid (∀ k, k ≤ 8 → 7 ≤ k → g0 (xs.getD 0 0) k = 0) := fun k hk h => by
      obtain ⟨n, hn'⟩ := Int.eq_ofNat_of_zero_le hx.1
      rw [hn'] at hx ⊢
      exact g0_seven ⟨n, by omega⟩ ⟨k, by omega⟩ h
    have HAS := gacc_succ xs
    have HAB := gacc_bd xs
    have hBj := fun j => hB.getD j
    generalize xs.getD 0 0 = x at *
    generalize hlx : lead x = k at *
    have HLX : Hid (lead x = k) := hlx
    clear hlx hB hcell
    have hg0 := g0_bd x k
    have hG0 : Hid (gacc xs k 0 = g0 x k) := HG k
    have HA : ∀ j, j + 1 < xs.length → Hid (gacc xs k (j + 1) = gs (gacc xs k j) (xs.getD (j + 1) 0)) := fun j h => HAS k j h
    have HAB2 := HAB k
    clear HG HAS HAB
    generalize gacc xs k = G at *
    go_enter Try.func82, Try.ntmps82
    go_wp2
    go_loop [4] (fun t => ∃ j : Nat, j ≤ k ∧ t = .int .i64 j) (fun t => 9 - (intOf t).toNat)
    case atStart => exact ⟨0, Nat.zero_le _, rfl⟩
    case round =>
      obtain ⟨j, hj, rfl⟩ := hrel
      by_cases hlt : j < k
      · have hbit := LB.out j (by omega) hj
        rw [decide_eq_true hlt] at hbit
        go_wp2
        go_round
        case rel => exact ⟨j + 1, by omega, by go_num⟩
        case measure => simp [intOf]; omega
      · obtain rfl : j = k := by omega
        have hb8 : j < 8 → (bits BinOp.and .u8 (x / 2 ^ (7 - j)) 1 == 1) = false := fun h => by
          have := LB.out j h (Nat.le_refl _)
          rwa [decide_eq_false (Nat.lt_irrefl _)] at this
        have hG7 : 7 ≤ j → G 0 = 0 := fun h => by rw [hG0.out]; exact G7.out j hk h
        clear LB G7
        have hcls : (j < 7 ∧ j < 8) ∨ (7 ≤ j ∧ j < 8) ∨ (7 ≤ j ∧ 8 ≤ j) := by omega
        by_cases hlk : xs.length ≤ j
        · have HS0 : Hid (getS xs = (0, 0)) := by rw [Hid, HS.out, if_pos hlk]
          clear HS HA HAB2 hBj hcl
          rcases hcls with ⟨h7, h8⟩ | ⟨h7, h8⟩ | ⟨h7, h8⟩
          · have hbit := hb8 h8
            clear hb8 hG7
            go_wp2
            go_ret2
            rw [HS0.out]
            exact ⟨rfl, rfl⟩
          · obtain rfl : j = 7 := by omega
            have hbit : (bits BinOp.and .u8 x 1 == 1) = false := by have := hb8 h8; rwa [show x / 2 ^ (7 - 7) = x by simp] at this
            clear hb8 hG7
            go_wp2
            go_ret2
            rw [HS0.out]
            exact ⟨rfl, rfl⟩
          · clear hb8 hG7
            go_wp2
            go_ret2
            rw [HS0.out]
            exact ⟨rfl, rfl⟩
        · have hGz : j < 7 → Hid (G 0 = bits BinOp.and .u8 x (127 / 2 ^ j)) := fun _ => by rw [Hid, hG0.out]; rfl
          unfold g0 at hg0
          rcases hcls with ⟨h7, h8⟩ | ⟨h7, h8⟩ | ⟨h7, h8⟩
          all_goals
            have hst : ∀ m, m < j → Hid (G (m + 1) = gs (G m) (xs.getD (m + 1) 0)) := fun m h => HA m (by omega)
            clear HA
          · have hbit := hb8 h8
            have hz := hGz h7
            clear hb8 hG7 hGz
            go_wp2
            go_loop [5, 6] (fun t i => ∃ m : Nat, m ≤ j ∧ i = .int .i64 ((m : Int) + 1) ∧ t = .int .u64 (G m)) (fun _ i => j + 1 - (intOf i).toNat)
            case atStart => exact ⟨0, Nat.zero_le _, by go_num, by rw [hz.out]⟩
            case round =>
              obtain ⟨m, hm, rfl, rfl⟩ := hrel
              have hGb := HAB2 m
              by_cases hlt2 : m < j
              · have h1 := hcl (m + 1) (by omega)
                have hb1 := hBj (m + 1)
                have HAj := hst m hlt2
                clear hcl hBj HAB2 hst
                generalize xs.getD (m + 1) 0 = y at *
                go_wp2
                go_round
                case rel => exact ⟨m + 1, by omega, by go_num, by rw [HAj.out]; rfl⟩
                case measure => simp [intOf]; omega
              · obtain rfl : m = j := by omega
                clear hcl hBj HAB2 hst
                by_cases hmm : m = more (G m).toNat
                · have hmb : ((more (G m).toNat : Int) != (m : Int)) = false := by rw [← hmm]; simp
                  have HM : Hid (m = more (G m).toNat) := hmm
                  clear hmm
                  go_wp2_with (go_at_call 68; refine same_mono (rmore_any _ _ (by omega) (by omega)) ?_)
                  go_ret2
                  rw [HS.out, if_neg hlk, if_pos HM.out]
                  exact ⟨rfl, rfl⟩
                · have hmb : ((more (G m).toNat : Int) != (m : Int)) = true := by rw [bne_iff_ne]; omega
                  go_wp2_with (go_at_call 68; refine same_mono (rmore_any _ _ (by omega) (by omega)) ?_)
                  go_ret2
                  rw [HS.out, if_neg hlk, if_neg hmm]
                  exact ⟨rfl, rfl⟩
          · obtain rfl : j = 7 := by omega
            have hbit : (bits BinOp.and .u8 x 1 == 1) = false := by have := hb8 h8; rwa [show x / 2 ^ (7 - 7) = x by simp] at this
            have hz : Hid (G 0 = 0) := hG7 h7
            clear hb8 hG7 hGz
            go_wp2
            go_loop [5, 6] (fun t i => ∃ m : Nat, m ≤ 7 ∧ i = .int .i64 ((m : Int) + 1) ∧ t = .int .u64 (G m)) (fun _ i => 7 + 1 - (intOf i).toNat)
            case atStart => exact ⟨0, Nat.zero_le _, by go_num, by rw [hz.out]⟩
            case round =>
              obtain ⟨m, hm, rfl, rfl⟩ := hrel
              have hGb := HAB2 m
              by_cases hlt2 : m < 7
              · have h1 := hcl (m + 1) (by omega)
                have hb1 := hBj (m + 1)
                have HAj := hst m hlt2
                clear hcl hBj HAB2 hst
                generalize xs.getD (m + 1) 0 = y at *
                go_wp2
                go_round
                case rel => exact ⟨m + 1, by omega, by go_num, by rw [HAj.out]; rfl⟩
                case measure => simp [intOf]; omega
              · obtain rfl : m = 7 := by omega
                clear hcl hBj HAB2 hst
                by_cases hmm : 7 = more (G 7).toNat
                · have hmb : ((more (G 7).toNat : Int) != 7) = false := by rw [← hmm]; simp
                  have HM : Hid (7 = more (G 7).toNat) := hmm
                  clear hmm
                  go_wp2_with (go_at_call 68; refine same_mono (rmore_any _ _ (by omega) (by omega)) ?_)
                  go_ret2
                  rw [HS.out, if_neg hlk, if_pos HM.out]
                  exact ⟨rfl, rfl⟩
                · have hmb : ((more (G 7).toNat : Int) != 7) = true := by rw [bne_iff_ne]; omega
                  go_wp2_with (go_at_call 68; refine same_mono (rmore_any _ _ (by omega) (by omega)) ?_)
                  go_ret2
                  rw [HS.out, if_neg hlk, if_neg hmm]
                  exact ⟨rfl, rfl⟩
          · have hz : Hid (G 0 = 0) := hG7 h7
            clear hb8 hG7 hGz
            go_wp2
            go_loop [5, 6] (fun t i => ∃ m : Nat, m ≤ j ∧ i = .int .i64 ((m : Int) + 1) ∧ t = .int .u64 (G m)) (fun _ i => j + 1 - (intOf i).toNat)
            case atStart => exact ⟨0, Nat.zero_le _, by go_num, by rw [hz.out]⟩
            case round =>
              obtain ⟨m, hm, rfl, rfl⟩ := hrel
              have hGb := HAB2 m
              by_cases hlt2 : m < j
              · have h1 := hcl (m + 1) (by omega)
                have hb1 := hBj (m + 1)
                have HAj := hst m hlt2
                clear hcl hBj HAB2 hst
                generalize xs.getD (m + 1) 0 = y at *
                go_wp2
                go_round
                case rel => exact ⟨m + 1, by omega, by go_num, by rw [HAj.out]; rfl⟩
                case measure => simp [intOf]; omega
              · obtain rfl : m = j := by omega
                clear hcl hBj HAB2 hst
                by_cases hmm : m = more (G m).toNat
                · have hmb : ((more (G m).toNat : Int) != (m : Int)) = false := by rw [← hmm]; simp
                  have HM : Hid (m = more (G m).toNat) := hmm
                  clear hmm
                  go_wp2_with (go_at_call 68; refine same_mono (rmore_any _ _ (by omega) (by omega)) ?_)
                  go_ret2
                  rw [HS.out, if_neg hlk, if_pos HM.out]
                  exact ⟨rfl, rfl⟩
                · have hmb : ((more (G m).toNat : Int) != (m : Int)) = true := by rw [bne_iff_ne]; omega
                  go_wp2_with (go_at_call 68; refine same_mono (rmore_any _ _ (by omega) (by omega)) ?_)
                  go_ret2
                  rw [HS.out, if_neg hlk, if_neg hmm]
                  exact ⟨rfl, rfl⟩
end Go.Proofs.Ytomhmoedicajoaa
