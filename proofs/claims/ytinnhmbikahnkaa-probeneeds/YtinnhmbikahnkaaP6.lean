/-
  Contracts: corbelref01.Ints, corbellaw04.lives.
-/
import Derived.Test.YtinnhmbikahnkaaP5
import Derived.Deep.QuietTactic
namespace Go.Proofs.Ytinnhmbikahnkaa
open Go.RowKit Go.Shelf

theorem below_drewN {B k : Nat} {a w : World} (h : Below B a w) : Below B a (w.drewN k) := ⟨h.os, h.tape, h.output, h.size, h.block⟩

set_option maxRecDepth 10000 in
set_option maxHeartbeats 2000000 in
theorem ints_any (u v : Value) (xs ys : List Int) (w : World) (hx : HasI w u xs) (hy : HasI w v ys) (lx : xs.length ≤ 1099511627776) (ly : ys.length ≤ 1099511627776) :
    Calls Try.prog 9 #[u, v] w fun e w' => e = .returned (.bool (decide (xs = ys))) ∧ Below w.heap.size w w' := by
  obtain ⟨p, c, rfl, hc, _, hcx⟩ := hx
  obtain ⟨q, d, rfl, hd, _, hcy⟩ := hy
  by_cases hl : xs.length = ys.length
  · rcases Nat.eq_zero_or_pos xs.length with h0 | h0
    · obtain rfl : xs = [] := List.eq_nil_of_length_eq_zero h0
      obtain rfl : ys = [] := List.eq_nil_of_length_eq_zero (by simpa using hl.symm)
      go_enter Try.func9, Try.ntmps9
      go_wp2
      go_loop [13] (fun t => t = .int .i64 0) (fun _ => 0)
      case atStart => rfl
      case round =>
        obtain rfl := hrel
        go_wp2
        go_ret
        exact ⟨rfl, Below.refl _ _⟩
    · obtain ⟨b, o, rfl, hbl, hcx⟩ := hcx h0
      obtain ⟨b', o', rfl, hbl', hcy⟩ := hcy (by omega)
      have hl' : ((xs.length : Int) == (ys.length : Int)) = true := by rw [hl]; simp
      go_enter Try.func9, Try.ntmps9
      go_wp2
      go_loopw [13] (fun t wr => ∃ j : Nat, j ≤ xs.length ∧ t = .int .i64 j ∧ Hid (∀ i, i < j → xs.getD i 0 = ys.getD i 0) ∧ Below w.heap.size w wr) (fun t _ => xs.length - (intOf t).toNat)
      case atStart => exact ⟨0, by omega, rfl, fun i hi => by omega, Below.refl _ _⟩
      case round =>
        obtain ⟨j, hj, rfl, hs, hb⟩ := hrel
        by_cases hlt : j < xs.length
        · have c1 : wr.cell? ⟨b, o + j, none⟩ = some (.int .i64 (xs.getD j 0)) := (hb.cell (p := ⟨b, o + j, none⟩) hbl).trans (hcx j hlt)
          have c2 : wr.cell? ⟨b', o' + j, none⟩ = some (.int .i64 (ys.getD j 0)) := (hb.cell (p := ⟨b', o' + j, none⟩) hbl').trans (hcy j (by omega))
          have hj1 : (j : Int) < (xs.length : Int) := by omega
          have hj2 : (j : Int) < (ys.length : Int) := by omega
          by_cases he : xs.getD j 0 = ys.getD j 0
          · have he' : (xs.getD j 0 == ys.getD j 0) = true := beq_iff_eq.2 he
            have hs' : Hid (∀ i, i < j + 1 → xs.getD i 0 = ys.getD i 0) := fun i hi => by
              by_cases e : i = j
              · rw [e]; exact he
              · exact hs.out i (by omega)
            clear hs he hcx hcy
            generalize xs.getD j 0 = x at *
            generalize ys.getD j 0 = y at *
            go_wp2
            go_quiet (fail)
            go_wp2
            go_roundw
            case rel => exact ⟨j + 1, by omega, by simp, hs', below_drewN hb⟩
            case measure => simp only [intOf]; omega
          · have he' : (xs.getD j 0 == ys.getD j 0) = false := beq_eq_false_iff_ne.2 he
            have hd0 : Hid (decide (xs = ys) = false) := decide_eq_false fun e => he (by rw [e])
            clear hs he hcx hcy
            generalize xs.getD j 0 = x at *
            generalize ys.getD j 0 = y at *
            go_wp2
            go_quiet (fail)
            go_wp2
            go_ret
            exact ⟨by rw [hd0.out]; rfl, below_drewN hb⟩
        · obtain rfl : j = xs.length := by omega
          have he : Hid (decide (xs = ys) = true) := decide_eq_true (List.ext_getElem hl fun i h1 h2 => by
            have := hs.out i h1
            simpa [List.getD_eq_getElem?_getD, List.getElem?_eq_getElem h1, List.getElem?_eq_getElem h2] using this)
          clear hs hcx hcy
          go_wp2
          go_ret
          exact ⟨by rw [he.out]; rfl, hb⟩
  · have hne : xs ≠ ys := fun e => hl (by rw [e])
    have hd0 : decide (xs = ys) = false := decide_eq_false hne
    have hl' : ((xs.length : Int) == (ys.length : Int)) = false := by
      rw [beq_eq_false_iff_ne]; omega
    clear hcx hcy
    rw [hd0]
    go_enter Try.func9, Try.ntmps9
    go_wp2
    go_ret
    exact ⟨rfl, Below.refl _ _⟩

theorem example_seq : gatL 5 4 (-1) = [1, 2, 0, 3] := by decide +kernel
theorem example_need : needI 8 = 2 := by decide

set_option maxRecDepth 10000 in
set_option maxHeartbeats 2000000 in
theorem lives_any (w : World) : Calls Try.prog 13 #[] w fun e w' => e = .returned (.bool true) ∧ Below w.heap.size w w' := by
  have hn := example_need
  go_enter Try.func13, Try.ntmps13
  go_wp2_with fail
  refine (gather_any 5 4 (-1) (by omega) (by omega) (by omega) (by omega) (by omega) (by omega) _).mono ?_
  rintro e w1 ⟨v, rfl, h1, h2⟩
  rw [example_seq] at h1
  have hL := HasI.lit w1 [1, 2, 0, 3] 3
  have h3 := (h1.has.below ((Below.refl w1.heap.size w1).alloc (Nat.le_refl _) (.cells #[.int .i64 1, .int .i64 2, .int .i64 0, .int .i64 3] 3)) (Nat.le_refl _))
  have hB1 : Below w.heap.size w (w1.alloc (.cells #[.int .i64 1, .int .i64 2, .int .i64 0, .int .i64 3] 3)) := h2.alloc h2.size _
  go_wp2_with fail
  refine (ints_any _ _ _ _ _ h3 hL (by decide) (by decide)).mono ?_
  rintro e w2 ⟨rfl, hb⟩
  rw [show decide (([1, 2, 0, 3] : List Int) = [1, 2, 0, 3]) = true from by decide]
  have hB2 : Below w.heap.size w w2 := hB1.trans (hb.mono (by have := h2.size; simp; omega))
  clear hb hL h3 hB1 h1 h2
  go_wp2_with (go_at_call 16; refine (need_any 8 _ (by omega) (by omega)).mono ?_; rintro e w3 ⟨rfl, rfl⟩; rw [hn])
  go_ret
  exact ⟨rfl, hB2⟩
end Go.Proofs.Ytinnhmbikahnkaa
