/-
  Contract: corbelref08.Good; the walk of corbellaw08.DiskNames.
-/
import Derived.Test.YtefgnehahedckaaDs2
namespace Go.Proofs.Ytefgnehahedckaa
open Go.RowKit Go.Maps

theorem chN_cases {c : Nat} (h : chN c = true) : (97 ≤ c ∧ c ≤ 122) ∨ (48 ≤ c ∧ c ≤ 57) ∨ c = 46 ∨ c = 45 := by
  unfold chN letN digN at h
  simp only [Bool.or_eq_true, Bool.and_eq_true, decide_eq_true_eq, beq_iff_eq] at h
  omega
theorem chN_not {c : Nat} (h : chN c = false) : c < 45 ∨ c = 47 ∨ (57 < c ∧ c < 97) ∨ 122 < c := by
  unfold chN letN digN at h
  simp only [Bool.or_eq_false_iff, Bool.and_eq_false_iff, decide_eq_false_iff_not, beq_eq_false_iff_ne] at h
  omega
set_option maxRecDepth 10000 in
set_option maxHeartbeats 2000000 in
theorem rgood_any (x : ByteArray) (hs : x.size ≤ maxLen) (w : World) : Calls Try.prog 16 #[.string x] w fun e w' => e = .returned (.bool (goodN x)) ∧ w' = w := by
  unfold maxLen at hs
  by_cases h0 : x.size = 0
  · have hg : goodN x = false := by unfold goodN; rw [h0]; rfl
    have h0' : (x.size : Int) < 1 := by omega
    rw [hg]
    go_enter Try.func16, Try.ntmps16
    go_wp2
    go_ret
    exact ⟨rfl, rfl⟩
  by_cases h24 : 24 < x.size
  · have hg : goodN x = false := by unfold goodN; rw [decide_eq_false (by omega : ¬ x.size ≤ 24)]; simp
    have h0' : ¬ (x.size : Int) < 1 := by omega
    have h24' : (24 : Int) < x.size := by omega
    rw [hg]
    go_enter Try.func16, Try.ntmps16
    go_wp2
    go_ret
    exact ⟨rfl, rfl⟩
  have hp : 0 < x.size := by omega
  have h0' : (1 : Int) ≤ x.size := by omega
  have h24' : (x.size : Int) ≤ 24 := by omega
  have he : goodN x = (letN x[0].toNat && x.data.toList.all fun c => chN c.toNat) := by
    unfold goodN
    rw [decide_eq_true (by omega : 1 ≤ x.size), decide_eq_true (by omega : x.size ≤ 24)]
    simp [List.getD_eq_getElem?_getD, List.getElem?_eq_getElem (by simpa using hp : 0 < x.data.toList.length)]
    rfl
  have hlt : (x[0].toNat : Int) < 97 ∨ (122 : Int) < x[0].toNat ∨ ((97 : Int) ≤ x[0].toNat ∧ (x[0].toNat : Int) ≤ 122) := by omega
  rcases hlt with hlt | hlt | ⟨hl1, hl2⟩
  · have hlet : letN x[0].toNat = false := by unfold letN; rw [decide_eq_false (by omega)]; rfl
    rw [hlet, Bool.false_and] at he
    rw [he]
    clear he hlet
    go_enter Try.func16, Try.ntmps16
    go_wp2
    go_ret
    exact ⟨rfl, rfl⟩
  · have hlet : letN x[0].toNat = false := by unfold letN; rw [decide_eq_false (by omega : ¬ x[0].toNat ≤ 122), Bool.and_false]
    have hl1 : (97 : Int) ≤ x[0].toNat := by omega
    rw [hlet, Bool.false_and] at he
    rw [he]
    clear he hlet
    go_enter Try.func16, Try.ntmps16
    go_wp2
    go_ret
    exact ⟨rfl, rfl⟩
  · have hlet : letN x[0].toNat = true := by unfold letN; rw [decide_eq_true (by omega), decide_eq_true (by omega)]; rfl
    rw [hlet, Bool.true_and] at he
    have he' : Hid (goodN x = x.data.toList.all fun c => chN c.toNat) := he
    clear he hlet
    go_enter Try.func16, Try.ntmps16
    go_wp2
    go_loop [3] (fun i => ∃ k : Nat, k ≤ x.size ∧ i = .int .i64 k ∧ Hid (((x.data.toList.take k).all fun c => chN c.toNat) = true)) (fun i => x.size - (intOf i).toNat)
    case atStart => exact ⟨0, Nat.zero_le _, rfl, rfl⟩
    case round =>
      obtain ⟨k, hk, rfl, ha⟩ := hrel
      by_cases hlt : k < x.size
      · have HS : Hid (((x.data.toList.take (k + 1)).all fun c => chN c.toNat) = chN x[k].toNat) := by
          show _ = _
          rw [take_snoc8 x k hlt, List.all_append, ha.out]
          simp
        have HF : Hid (chN x[k].toNat = false → goodN x = false) := by
          intro hc
          rw [he'.out, ← List.take_append_drop (k + 1) x.data.toList, List.all_append, HS.out, hc, Bool.false_and]
        clear he'
        generalize hxc : x[k].toNat = c at *
        cases hc : chN c with
        | true =>
          have HS' : Hid (((x.data.toList.take (k + 1)).all fun c => chN c.toNat) = true) := HS.out.trans hc
          have Hc := chN_cases hc
          clear HS HF hc
          rcases Hc with ⟨q1, q2⟩ | ⟨q1, q2⟩ | q | q
          · have p1 : (97 : Int) ≤ c := by omega
            have p2 : (c : Int) ≤ 122 := by omega
            go_wp2
            go_round
            case rel => exact ⟨k + 1, by omega, by go_num, HS'⟩
            case measure => simp only [intOf]; omega
          · have p1 : (c : Int) < 97 := by omega
            have p2 : (48 : Int) ≤ c := by omega
            have p3 : (c : Int) ≤ 57 := by omega
            go_wp2
            go_round
            case rel => exact ⟨k + 1, by omega, by go_num, HS'⟩
            case measure => simp only [intOf]; omega
          · subst q
            go_wp2
            go_round
            case rel => exact ⟨k + 1, by omega, by go_num, HS'⟩
            case measure => simp only [intOf]; omega
          · subst q
            go_wp2
            go_round
            case rel => exact ⟨k + 1, by omega, by go_num, HS'⟩
            case measure => simp only [intOf]; omega
        | false =>
          have Hg : Hid (goodN x = false) := HF.out hc
          have Hc := chN_not hc
          clear HS HF hc
          rcases Hc with q | q | ⟨q1, q2⟩ | q
          · have p1 : (c : Int) < 48 := by omega
            have p2 : (c : Int) < 97 := by omega
            have e46 : ((c : Int) == 46) = false := by rw [beq_eq_false_iff_ne]; omega
            have e45 : ((c : Int) == 45) = false := by rw [beq_eq_false_iff_ne]; omega
            go_wp2
            go_ret
            refine ⟨?_, rfl⟩
            rw [Hg.out]
            rfl
          · subst q
            go_wp2
            go_ret
            refine ⟨?_, rfl⟩
            rw [Hg.out]
            rfl
          · have p1 : (c : Int) < 97 := by omega
            have p2 : (48 : Int) ≤ c := by omega
            have p3 : decide ((c : Int) ≤ 57) = false := decide_eq_false (by omega)
            have e46 : ((c : Int) == 46) = false := by rw [beq_eq_false_iff_ne]; omega
            have e45 : ((c : Int) == 45) = false := by rw [beq_eq_false_iff_ne]; omega
            go_wp2
            go_ret
            refine ⟨?_, rfl⟩
            rw [Hg.out]
            rfl
          · have p1 : decide ((c : Int) ≤ 122) = false := decide_eq_false (by omega)
            have p2 : (97 : Int) ≤ c := by omega
            have p3 : (48 : Int) ≤ c := by omega
            have p4 : decide ((c : Int) ≤ 57) = false := decide_eq_false (by omega)
            have e46 : ((c : Int) == 46) = false := by rw [beq_eq_false_iff_ne]; omega
            have e45 : ((c : Int) == 45) = false := by rw [beq_eq_false_iff_ne]; omega
            go_wp2
            go_ret
            refine ⟨?_, rfl⟩
            rw [Hg.out]
            rfl
      · have hkn : k = x.size := by omega
        have hg : goodN x = true := by
          rw [he'.out, ← List.take_of_length_le (l := x.data.toList) (i := k) (by rw [hkn]; exact Nat.le_refl _)]
          exact ha.out
        have Hg : Hid (goodN x = true) := hg
        clear ha he' hg
        go_wp2
        go_ret
        refine ⟨?_, rfl⟩
        rw [Hg.out]
        rfl
set_option maxRecDepth 10000 in
theorem diskNames_any (x : ByteArray) (w : World) (hs : x.size ≤ maxLen) : Calls Try.prog 4 #[.string x] w fun e w' => e = .returned (.bool true) ∧ Below w.heap.size w w' := by
  by_cases hl : 1000 < x.size
  · have hl' : (1000 : Int) < x.size := by omega
    go_enter Try.func4, Try.ntmps4
    go_wp2
    go_ret
    exact ⟨rfl, Below.refl _ _⟩
  · have hl' : (x.size : Int) ≤ 1000 := by omega
    have hg := good_any x hs w
    have hr := rgood_any x hs w
    generalize goodN x = g at *
    go_enter Try.func4, Try.ntmps4
    go_wp2_with fail
    refine same_mono hg ?_
    go_wp2_with fail
    refine same_mono hr ?_
    cases g
    all_goals
      go_wp2_with fail
      refine (lives8 w).mono ?_
      rintro e w2 ⟨rfl, hb⟩
      go_wp2
      go_ret
      exact ⟨rfl, hb⟩
end Go.Proofs.Ytefgnehahedckaa
