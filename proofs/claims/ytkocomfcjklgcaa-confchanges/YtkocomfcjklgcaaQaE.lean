import Derived.Test.YtkocomfcjklgcaaQaS
import Derived.Deep.RegionHeld3
namespace Go.Proofs.Ytkocomfcjklgcaa
open Go.RowKit Go.Shelf

theorem below_drew14 {B k : Nat} {a w : World} (h : Below B a w) : Below B a (w.drewN k) := ⟨h.os, h.tape, h.output, h.size, h.block⟩
theorem HasI.parts14 {w : World} {v : Value} {xs : List Int} (h : HasI w v xs) : ∃ p c, v = .slice p xs.length c ∧ xs.length ≤ c ∧ ∀ i, i < xs.length → ∃ b o, p = some ⟨b, o, none⟩ ∧ b < w.heap.size ∧ w.cell? ⟨b, o + i, none⟩ = some (.int .i64 (xs.getD i 0)) := by
  obtain ⟨p, c, rfl, h1, _, h3⟩ := h
  refine ⟨p, c, rfl, h1, fun i hi => ?_⟩
  obtain ⟨b, o, rfl, hlt, hc⟩ := h3 (by omega)
  exact ⟨b, o, rfl, hlt, hc i hi⟩

set_option maxRecDepth 100000 in
set_option maxHeartbeats 2000000 in
theorem rhas_any (v : Value) (xs : List Int) (x : Int) (w : World) (h : HasI w v xs) (hl : xs.length ≤ 100000) :
    Calls Try.prog 24 #[v, .int .i64 x] w fun e w' => e = .returned (.bool (xs.contains x)) ∧ ∃ k, w' = w.drewN k := by
  obtain ⟨p, c, rfl, hc, hx⟩ := h.parts14
  clear h
  obtain ⟨R, hR⟩ : ∃ R, R = xs.contains x := ⟨_, rfl⟩
  rw [← hR]
  have HR : Hid (R = xs.contains x) := hR
  clear hR
  go_enter Try.func24, Try.ntmps24
  go_wp2
  go_loopw [9] (fun t wr => ∃ j k : Nat, j ≤ xs.length ∧ t = .int .i64 j ∧ Hid (∀ i, i < j → xs.getD i 0 ≠ x) ∧ wr = w.drewN k) (fun t _ => xs.length - (intOf t).toNat)
  case atStart => exact ⟨0, 0, by omega, rfl, fun i hi => by omega, rfl⟩
  case round =>
    obtain ⟨j, k, hj, rfl, hs, rfl⟩ := hrel
    by_cases hlt : j < xs.length
    · obtain ⟨b, o, rfl, hbl, c1⟩ := hx j hlt
      have hj1 : (j : Int) < (xs.length : Int) := by omega
      by_cases he : xs.getD j 0 = x
      · have hRt : R = true := by
          rw [HR.out, List.contains_iff_mem, ← he, List.getD_eq_getElem?_getD, List.getElem?_eq_getElem hlt]
          exact List.getElem_mem _
        have he' : (xs.getD j 0 == x) = true := beq_iff_eq.2 he
        clear hs he hx
        generalize xs.getD j 0 = y at *
        go_wp2
        go_ret
        exact ⟨by rw [hRt]; rfl, k, rfl⟩
      · have he' : (xs.getD j 0 == x) = false := beq_eq_false_iff_ne.2 he
        have hs' : Hid (∀ i, i < j + 1 → xs.getD i 0 ≠ x) := fun i hi => by
          by_cases e : i = j
          · rw [e]; exact he
          · exact hs.out i (by omega)
        clear hs he hx
        generalize xs.getD j 0 = y at *
        go_wp2
        go_roundw
        case rel => exact ⟨j + 1, k, by omega, by simp, hs', rfl⟩
        case measure => simp only [intOf]; omega
    · obtain rfl : j = xs.length := by omega
      have hRf : R = false := by
        rw [HR.out]
        cases hc : xs.contains x with
        | false => rfl
        | true =>
          obtain ⟨i, hi, e⟩ := List.getElem_of_mem (List.contains_iff_mem.1 hc)
          exact absurd (by rw [List.getD_eq_getElem?_getD, List.getElem?_eq_getElem hi]; exact e) (hs.out i hi)
      clear hs hx
      go_wp2
      go_ret
      exact ⟨by rw [hRf]; rfl, k, rfl⟩
end Go.Proofs.Ytkocomfcjklgcaa
