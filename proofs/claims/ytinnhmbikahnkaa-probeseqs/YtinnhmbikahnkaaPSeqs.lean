/-
  The walk of corbellaw04.ProbeSeqs.
-/
import Derived.Test.YtinnhmbikahnkaaP6
namespace Go.Proofs.Ytinnhmbikahnkaa
open Go.RowKit Go.Shelf

set_option maxRecDepth 10000 in
set_option maxHeartbeats 2000000 in
theorem probeSeqs_any (h g s : Int) (w : World) (hh : 0 ≤ h ∧ h ≤ 18446744073709551615) (hg : -9223372036854775808 ≤ g ∧ g ≤ 9223372036854775807) (hs : -9223372036854775808 ≤ s ∧ s ≤ 9223372036854775807) :
    Calls Try.prog 3 #[.int .u64 h, .int .i64 g, .int .i64 s] w fun e w' => e = .returned (.bool true) ∧ Below w.heap.size w w' := by
  have hA := fun X : World => rseq_any h g X (by omega) (by omega) (by omega) (by omega)
  have hB := fun X : World => gather_any h g s (by omega) (by omega) (by omega) (by omega) (by omega) (by omega) X
  have hC := fun X : World => good_any g X (by omega) (by omega)
  have hD := fun X : World => rgood_any g X (by omega) (by omega)
  have hl := grp_len h g
  generalize isGood g = b at *
  have hT : Hid (gatL h g s = if 0 ≤ s then (grpL h g).take s.toNat else grpL h g) := rfl
  generalize gatL h g s = ts at *
  generalize grpL h g = xs at *
  have hle : ts.length ≤ 1024 := by
    rw [hT.out]
    split
    · rw [List.length_take]; omega
    · exact hl
  go_enter Try.func3, Try.ntmps3
  go_wp2_with fail
  refine (hA _).mono ?_
  rintro e w1 ⟨v, rfl, ho, hb1⟩
  have hv := ho.has
  obtain ⟨p, c, rfl, hc, hnone, hcell⟩ := id hv
  by_cases hcut : 0 ≤ s ∧ s < (xs.length : Int)
  · obtain ⟨hc0, hc1⟩ := hcut
    have ht := hv.takeN s.toNat (by omega)
    rw [hT.out, if_pos hc0] at hB hle
    have hc1' : s < (xs.length : Int) := hc1
    obtain ⟨b', o', rfl, _, _⟩ := hcell (by omega)
    clear hcell hT ho
    go_wp2_with fail
    refine (hB _).mono ?_
    rintro e w2 ⟨v2, rfl, ho2, hb2⟩
    go_wp2_with fail
    refine (ints_any _ _ _ _ _ ho2.has (ht.below hb2 (Nat.le_refl _)) (by omega) (by omega)).mono ?_
    rintro e w3 ⟨rfl, hb3⟩
    rw [decide_eq_true rfl]
    have hB3 : Below w.heap.size w w3 := hb1.trans ((hb2.mono hb1.size).trans (hb3.mono (Nat.le_trans hb1.size hb2.size)))
    clear hb1 hb2 hb3 ho2
    go_wp2_with fail
    refine (hC _).mono ?_
    rintro e w' ⟨rfl, rfl⟩
    go_wp2_with fail
    refine (hD _).mono ?_
    rintro e w' ⟨rfl, rfl⟩
    go_wp2_with fail
    refine (lives_any _).mono ?_
    rintro e w4 ⟨rfl, hb4⟩
    go_wp2
    go_ret
    exact ⟨rfl, hB3.trans (hb4.mono hB3.size)⟩
  · have e1 : ts = xs := by
      rw [hT.out]
      split
      · exact List.take_of_length_le (by omega)
      · rfl
    subst e1
    clear hT ho hcell
    rcases Int.lt_or_le s 0 with hs0 | hs0
    · go_wp2_with fail
      refine (hB _).mono ?_
      rintro e w2 ⟨v2, rfl, ho2, hb2⟩
      go_wp2_with fail
      refine (ints_any _ _ _ _ _ ho2.has (hv.below hb2 (Nat.le_refl _)) (by omega) (by omega)).mono ?_
      rintro e w3 ⟨rfl, hb3⟩
      rw [decide_eq_true rfl]
      have hB3 : Below w.heap.size w w3 := hb1.trans ((hb2.mono hb1.size).trans (hb3.mono (Nat.le_trans hb1.size hb2.size)))
      clear hb1 hb2 hb3 ho2
      go_wp2_with fail
      refine (hC _).mono ?_
      rintro e w' ⟨rfl, rfl⟩
      go_wp2_with fail
      refine (hD _).mono ?_
      rintro e w' ⟨rfl, rfl⟩
      go_wp2_with fail
      refine (lives_any _).mono ?_
      rintro e w4 ⟨rfl, hb4⟩
      go_wp2
      go_ret
      exact ⟨rfl, hB3.trans (hb4.mono hB3.size)⟩
    · have hs1 : ¬ s < (ts.length : Int) := fun h' => hcut ⟨hs0, h'⟩
      clear hcut
      go_wp2_with fail
      refine (hB _).mono ?_
      rintro e w2 ⟨v2, rfl, ho2, hb2⟩
      go_wp2_with fail
      refine (ints_any _ _ _ _ _ ho2.has (hv.below hb2 (Nat.le_refl _)) (by omega) (by omega)).mono ?_
      rintro e w3 ⟨rfl, hb3⟩
      rw [decide_eq_true rfl]
      have hB3 : Below w.heap.size w w3 := hb1.trans ((hb2.mono hb1.size).trans (hb3.mono (Nat.le_trans hb1.size hb2.size)))
      clear hb1 hb2 hb3 ho2
      go_wp2_with fail
      refine (hC _).mono ?_
      rintro e w' ⟨rfl, rfl⟩
      go_wp2_with fail
      refine (hD _).mono ?_
      rintro e w' ⟨rfl, rfl⟩
      go_wp2_with fail
      refine (lives_any _).mono ?_
      rintro e w4 ⟨rfl, hb4⟩
      go_wp2
      go_ret
      exact ⟨rfl, hB3.trans (hb4.mono hB3.size)⟩
end Go.Proofs.Ytinnhmbikahnkaa
