/-
  Contracts of the document's: Meet.
-/
import Derived.Test.YtjaoljhbnbaeaaaQaE
namespace Go.Proofs.Ytjaoljhbnbaeaaa
open Go.RowKit Go.Shelf

theorem meet_take (a b l : List Int) (j : Nat) (h : j < l.length) : meet14 a b (l.take (j + 1)) = (meet14 a b (l.take j) || (a.contains (l.getD j 0) && b.contains (l.getD j 0))) := by
  unfold meet14
  rw [List.take_add_one, List.getElem?_eq_getElem h, List.any_append, List.getD_eq_getElem?_getD, List.getElem?_eq_getElem h]
  simp
theorem meet_found (a b l : List Int) (j : Nat) (h : j < l.length) (hm : (a.contains (l.getD j 0) && b.contains (l.getD j 0)) = true) : meet14 a b l = true := by
  unfold meet14
  refine List.any_eq_true.2 ⟨l.getD j 0, ?_, hm⟩
  rw [List.getD_eq_getElem?_getD, List.getElem?_eq_getElem h]
  exact List.getElem_mem _

set_option maxRecDepth 100000 in
set_option maxHeartbeats 2000000 in
theorem rmeet_any (u v t : Value) (a b l : List Int) (w : World) (ha : HasI w u a) (hb : HasI w v b) (hl : HasI w t l) (la : a.length ≤ 100000) (lb : b.length ≤ 100000) (ll : l.length ≤ 100000) :
    Calls Try.prog 17 #[u, v, t] w fun e w' => e = .returned (.bool (meet14 a b l)) ∧ ∃ k, w' = w.drewN k := by
  obtain ⟨p, c, rfl, hc, hx⟩ := hl.parts14
  clear hl
  have kA : ∀ x k, Calls Try.prog 18 #[u, .int .i64 x] (w.drewN k) fun e w' => e = .returned (.bool (a.contains x)) ∧ ∃ q, w' = w.drewN q := fun x k => (rhas_any u a x (w.drewN k) ha la).mono (by rintro e w' ⟨rfl, q, rfl⟩; exact ⟨rfl, _, World.drewN_drewN _ _ _⟩)
  have kB : ∀ x k, Calls Try.prog 18 #[v, .int .i64 x] (w.drewN k) fun e w' => e = .returned (.bool (b.contains x)) ∧ ∃ q, w' = w.drewN q := fun x k => (rhas_any v b x (w.drewN k) hb lb).mono (by rintro e w' ⟨rfl, q, rfl⟩; exact ⟨rfl, _, World.drewN_drewN _ _ _⟩)
  obtain ⟨R, hR⟩ : ∃ R, R = meet14 a b l := ⟨_, rfl⟩
  rw [← hR]
  have HR : Hid (R = meet14 a b l) := hR
  clear hR ha hb
  go_enter Try.func17, Try.ntmps17
  go_wp2
  go_loopw [11] (fun t wr => ∃ j k : Nat, j ≤ l.length ∧ t = .int .i64 j ∧ Hid (meet14 a b (l.take j) = false) ∧ wr = w.drewN k) (fun t _ => l.length - (intOf t).toNat)
  case atStart => exact ⟨0, 0, by omega, rfl, rfl, rfl⟩
  case round =>
    obtain ⟨j, k, hj, rfl, hs, rfl⟩ := hrel
    by_cases hlt : j < l.length
    · obtain ⟨bb, o, rfl, hbl, c0⟩ := hx j hlt
      have c1 : (w.drewN k).cell? ⟨bb, o + j, none⟩ = some (.int .i64 (l.getD j 0)) := c0
      have hj1 : (j : Int) < (l.length : Int) := by omega
      have hsu := meet_take a b l j hlt
      rw [hs.out, Bool.false_or] at hsu
      have hf : (a.contains (l.getD j 0) && b.contains (l.getD j 0)) = true → R = true := fun h => by rw [HR.out]; exact meet_found a b l j hlt h
      have HF : Hid ((a.contains (l.getD j 0) && b.contains (l.getD j 0)) = true → R = true) := hf
      have HS : Hid (meet14 a b (l.take (j + 1)) = (a.contains (l.getD j 0) && b.contains (l.getD j 0))) := hsu
      have kA' := kA (l.getD j 0)
      have kB' := kB (l.getD j 0)
      clear c0 hs hf hsu kA kB hx
      generalize l.getD j 0 = y at *
      cases hca : a.contains y with
      | false =>
        rw [hca] at kA'
        have HS2 : Hid (meet14 a b (l.take (j + 1)) = false) := by have := HS.out; rw [hca, Bool.false_and] at this; exact this
        clear HS HF hca
        go_wp2_with (with_reducible refine Calls.mono (kA' _) ?_; rintro e w3 ⟨rfl, k3, rfl⟩)
        go_roundw
        case rel => exact ⟨j + 1, k3, by omega, by simp, HS2, rfl⟩
        case measure => simp only [intOf]; omega
      | true =>
        rw [hca] at kA'
        cases hcb : b.contains y with
        | false =>
          rw [hcb] at kB'
          have HS2 : Hid (meet14 a b (l.take (j + 1)) = false) := by have := HS.out; rw [hcb, Bool.and_false] at this; exact this
          clear HS HF hca hcb
          go_wp2_with fail
          refine Calls.mono (kA' _) ?_
          rintro e w3 ⟨rfl, k3, rfl⟩
          go_wp2_with fail
          refine Calls.mono (kB' _) ?_
          rintro e w3 ⟨rfl, k4, rfl⟩
          go_wp2
          go_roundw
          case rel => exact ⟨j + 1, k4, by omega, by simp, HS2, rfl⟩
          case measure => simp only [intOf]; omega
        | true =>
          rw [hcb] at kB'
          have hR1 : R = true := HF.out (by rw [hca, hcb]; rfl)
          clear HS HF hca hcb
          go_wp2_with fail
          refine Calls.mono (kA' _) ?_
          rintro e w3 ⟨rfl, k3, rfl⟩
          go_wp2_with fail
          refine Calls.mono (kB' _) ?_
          rintro e w3 ⟨rfl, k4, rfl⟩
          go_wp2
          go_ret
          exact ⟨by rw [hR1]; rfl, k4, rfl⟩
    · obtain rfl : j = l.length := by omega
      have hR1 : R = false := by rw [HR.out, ← hs.out, List.take_length]
      clear hs hx kA kB
      go_wp2
      go_ret
      exact ⟨by rw [hR1]; rfl, k, rfl⟩
end Go.Proofs.Ytjaoljhbnbaeaaa
