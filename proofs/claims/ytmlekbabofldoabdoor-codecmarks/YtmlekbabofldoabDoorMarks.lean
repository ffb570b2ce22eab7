/-
  The law CodecMarks: its walk.
-/
import Derived.Test.YtmlekbabofldoabDoorLives
import Derived.Test.YtmlekbabofldoabDoorFrm1
import Derived.Test.YtmlekbabofldoabDoorRowed
import Derived.BigQuiet
namespace Go.Proofs.YtmlekbabofldoabDoor
open Go.RowKit

theorem set_mark (xs : List Int) : (frameB xs).set 0 197 = frameB xs := by simp [frameB, frameH]
theorem unframe_set (xs : List Int) (m : Int) (h : xs.length ≤ 1048576) : unframeS ((frameB xs).set 0 m) = if m = 197 then (xs, (xs.length : Int) + 8, 0) else ([], 0, 8) := by
  by_cases hm : m = 197
  · rw [hm, set_mark, if_pos rfl]
    have := unframe_frame xs [] h
    rwa [List.append_nil] at this
  · rw [if_neg hm]
    refine unframe_mark _ ?_ ?_
    · rw [List.length_set, frameB_length]; omega
    · simpa [frameB, frameH] using hm
set_option maxHeartbeats 1000000 in
theorem marks_any (a0 : Option Addr) (len0 cap0 : Nat) (z0 : List Int) (m : Int) (w : World) (hT : Tab w) (hr : IsRow .u8 w a0 len0 cap0 z0) (hm : 0 ≤ m ∧ m ≤ 255) :
    Calls Tryd.prog 6 #[.slice a0 len0 cap0, .int .u8 m] w fun e w' => e = .returned (.bool true) ∧ Below w.heap.size w w' := by
  obtain ⟨hv, hB, hlen⟩ := hr.has
  have hmax := hr.len_le
  generalize z0.take len0 = xs at *
  clear hr
  by_cases hlong : 20000 < len0
  · go_enter Tryd.func6, Tryd.ntmps6
    go_wp2_with (go_at_call 7; refine (lives_any _ hT).mono ?_; rintro e w1 ⟨rfl, hb1⟩)
    go_ret
    exact ⟨rfl, hb1⟩
  · go_enter Tryd.func6, Tryd.ntmps6
    go_wp2_with fail
    refine (frame_any _ xs _ hT hv (by omega) hB).mono ?_
    rintro e w1 ⟨v1, rfl, ho1, hb1⟩
    subst hlen
    have hfl := frameB_length xs
    have hfB := frameB_isB hB
    obtain ⟨g, cap, rfl, hBg, hgw, hcap, hcl, hfr⟩ := ho1.form (by omega)
    have c0 := hcl 0 (by omega)
    have c1 := hcl 1 (by omega)
    have c2 := hcl 2 (by omega)
    have c3 := hcl 3 (by omega)
    rw [frame_get0] at c0
    rw [frame_get1] at c1
    rw [frame_get2] at c2
    rw [frame_get3] at c3
    have f0 := hfr 0
    rw [hfl] at ho1 hcap ⊢
    have HO1 : Hid (Owns w1 w.heap.size 5 (.slice (some ⟨g, 0, none⟩) (xs.length + 8) cap) (frameB xs)) := ho1
    have HFL : Hid ((frameB xs).length = xs.length + 8) := hfl
    clear hcl hfr ho1 hfl
    have d1 : decide ((xs.length : Int) + 8 < 8) = false := by simp; omega
    go_wp2_with fail
    go_quiet (fail)
    have hnum : ((xs.length : Int) % 256 + (xs.length : Int) / 256 % 256 * 256 + (xs.length : Int) / 65536 % 256 * 65536 != (xs.length : Int)) = false := by
      rw [bne_eq_false_iff_eq]; omega
    have hst := Owns.store (xs := frameB xs) (by rw [HFL.out]; exact HO1.out.below (below_drewN (Below.refl w1.heap.size w1) nq) (Nat.le_refl _)) 0 m
    rw [HFL.out] at hst
    have HST : Hid (_ ∧ _) := hst
    have hbd : Below w.heap.size w (w1.drewN nq) := below_drewN hb1 nq
    have hbs : Below w.heap.size w ((w1.drewN nq).setCell ⟨g, 0, none⟩ (.int .u8 m)) := hbd.setCell hBg _
    clear hst
    go_wp2_with fail
    refine (unframe_any _ ((frameB xs).set 0 m) _ (hT.below hbs (Nat.le_refl _)) HST.out.1.has (by rw [List.length_set, HFL.out]; omega) (set_isB hfB 0 m hm)).mono ?_
    rintro e w3 ⟨v3, rfl, hh3, hb3⟩
    clear hh3
    have hb03 : Below w.heap.size w w3 := hbs.trans (hb3.mono hbs.size)
    clear hbs hbd hb3 HST c0 c1 c2 c3 f0 hnum d1
    rw [unframe_set xs m (by omega)]
    by_cases h197 : m = 197
    · rw [if_pos h197]
      subst h197
      go_wp2_with (go_at_call 7; refine (lives_any _ (hT.below hb03 (Nat.le_refl _))).mono ?_; rintro e w4 ⟨rfl, hb4⟩)
      go_ret
      exact ⟨rfl, hb03.trans (hb4.mono hb03.size)⟩
    · rw [if_neg h197]
      have h197b : (m == 197) = false := by rw [beq_eq_false_iff_ne]; exact h197
      go_wp2_with (go_at_call 7; refine (lives_any _ (hT.below hb03 (Nat.le_refl _))).mono ?_; rintro e w4 ⟨rfl, hb4⟩)
      go_ret
      exact ⟨rfl, hb03.trans (hb4.mono hb03.size)⟩
end Go.Proofs.YtmlekbabofldoabDoor
