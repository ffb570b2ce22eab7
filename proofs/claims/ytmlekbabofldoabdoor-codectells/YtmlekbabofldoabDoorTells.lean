/-
  The law CodecTells: its walk.
-/
import Derived.Test.YtmlekbabofldoabDoorLives
import Derived.Test.YtmlekbabofldoabDoorTell0
import Derived.Test.YtmlekbabofldoabDoorRowed
namespace Go.Proofs.YtmlekbabofldoabDoor
open Go.RowKit

theorem flip_all : ∀ x : Fin 256, ∀ r : Fin 8, bits BinOp.xor .u8 (x.val : Int) (2 ^ r.val % 256) ≠ (x.val : Int) := by decide +kernel
theorem flip_ne (x : Int) (m : Nat) (hx : 0 ≤ x ∧ x ≤ 255) : bits BinOp.xor .u8 x (2 ^ (m % 8) % 256) ≠ x := by
  obtain ⟨n, rfl⟩ := Int.eq_ofNat_of_zero_le hx.1
  exact flip_all ⟨n, by omega⟩ ⟨m % 8, by omega⟩

set_option maxHeartbeats 2000000 in
theorem tells_any (a0 : Option Addr) (len0 cap0 : Nat) (z0 : List Int) (cut bit : Int) (w : World) (hT : Tab w) (hr : IsRow .u8 w a0 len0 cap0 z0) (hcut : 0 ≤ cut ∧ cut ≤ 18446744073709551615) (hbit : 0 ≤ bit ∧ bit ≤ 18446744073709551615) :
    Calls Tryd.prog 3 #[.slice a0 len0 cap0, .int .u64 cut, .int .u64 bit] w fun e w' => e = .returned (.bool true) ∧ Below w.heap.size w w' := by
  obtain ⟨hv, hB, hlen⟩ := hr.has
  have hmax := hr.len_le
  generalize z0.take len0 = xs at *
  clear hr
  by_cases hlong : 20000 < len0
  · go_enter Tryd.func3, Tryd.ntmps3
    go_wp2_with (go_at_call 7; refine (lives_any _ hT).mono ?_; rintro e w1 ⟨rfl, hb1⟩)
    go_ret
    exact ⟨rfl, hb1⟩
  · obtain ⟨i0, hi, hz0, hz1, hz2⟩ := info_parts info8
    go_enter Tryd.func3, Tryd.ntmps3
    go_wp2_with fail
    refine (frame_any _ xs _ hT hv (by omega) hB).mono ?_
    rintro e w1 ⟨v1, rfl, ho1, hb1⟩
    subst hlen
    have hfl := frameB_length xs
    have hfB := frameB_isB hB
    have HUE : Hid (∀ i, i < xs.length + 8 → unframeS ((frameB xs).take i) = ([], 0, 10)) := unframe_early xs (by omega)
    have HUF : Hid (∀ r, unframeS (frameB xs ++ r) = (xs, (xs.length : Int) + 8, 0)) := fun r => unframe_frame xs r (by omega)
    have HUT : Hid (∀ j y, 4 ≤ j → j < xs.length + 8 → (0 ≤ y ∧ y ≤ 255) → y ≠ (frameB xs).getD j 0 → unframeS ((frameB xs).set j y) = ([], 0, 8)) := unframe_turned xs (by omega) hB
    obtain ⟨g, cap, rfl, hBg, hgw, hcap, hcl, hfr⟩ := ho1.form (by omega)
    have HO1 : Hid (Owns w1 w.heap.size 5 (.slice (some ⟨g, 0, none⟩) (xs.length + 8) cap) (frameB xs)) := by rw [Hid, ← hfl]; exact ho1
    have HFL : Hid ((frameB xs).length = xs.length + 8) := hfl
    rw [hfl] at hcap hcl ⊢
    clear ho1 hfl
    obtain ⟨q, hq, hql⟩ : ∃ q : Nat, cut % ((xs.length : Int) + 8) = (q : Int) ∧ q < xs.length + 8 := by
      have h1 := Int.emod_nonneg cut (show (xs.length : Int) + 8 ≠ 0 by omega)
      have h2 := Int.emod_lt_of_pos cut (show 0 < (xs.length : Int) + 8 by omega)
      exact ⟨(cut % ((xs.length : Int) + 8)).toNat, by omega, by omega⟩
    go_wp2_with fail
    refine (unframe_any _ ((frameB xs).take q) _ (hT.below hb1 (Nat.le_refl _)) (HO1.out.has.takeN q (by rw [HFL.out]; omega)) (by rw [List.length_take, HFL.out]; omega) (IsB.takeB hfB q)).mono ?_
    rintro e w2 ⟨v2, rfl, hh2, hb2⟩
    rw [HUE.out q hql]
    clear hh2
    have hb02 : Below w.heap.size w w2 := hb1.trans (hb2.mono hb1.size)
    have HO2 : Hid (Owns w2 w.heap.size 5 (.slice (some ⟨g, 0, none⟩) (xs.length + 8) cap) (frameB xs)) := HO1.out.below hb2 (Nat.le_refl _)
    clear hq hql HO1
    go_wp2_with (first
      | (at_builtin; refine ap_slice _ rfl (.tmp 40) (.tmp 41) 22 rfl w2.heap.size 5 i0 Tryd.underlying22 hi hz0 hz1 hz2 _ [] (frameB xs) rfl (by exact HO2.out.has.below ((Below.refl w2.heap.size w2).alloc (Nat.le_refl _) _) (Nat.le_refl _)) (by exact Owns.empty w2 w2.heap.size _ (Nat.le_refl _)) (by simp) (by rw [HFL.out]; omega) (by simp) ?_; intro v3 w3 ho3 hb3; rw [List.nil_append] at ho3)
      | (at_builtin; refine ap_slice _ rfl (.tmp 42) (.tmp 43) 22 rfl w2.heap.size 5 i0 Tryd.underlying22 hi hz0 hz1 hz2 _ (frameB xs) [1, 2] rfl (by exact Has.lit w3 [1, 2] 5) (by exact ho3.below ((Below.refl w3.heap.size w3).alloc (Nat.le_refl _) _) (Nat.le_refl _)) (by rw [HFL.out]; omega) (by simp) (by have := hb3.size; simp at this ⊢; omega) ?_; intro v4 w4 ho4 hb4))
    have hb24 : Below w2.heap.size w2 w4 := ((((Below.refl w2.heap.size w2).alloc (Nat.le_refl _) _).trans hb3).alloc (by have := hb3.size; simp at this; omega) _).trans hb4
    have hb04 : Below w.heap.size w w4 := hb02.trans (hb24.mono hb02.size)
    refine (unframe_any _ (frameB xs ++ [1, 2]) _ (hT.below hb04 (Nat.le_refl _)) ho4.has (by rw [List.length_append, HFL.out]; simp; omega) (IsB.append hfB (IsB.cons (by omega) (IsB.cons (by omega) IsB.nil)))).mono ?_
    rintro e w5 ⟨v5, rfl, hh5, hb5⟩
    rw [HUF.out] at hh5 ⊢
    have hb05 : Below w.heap.size w w5 := hb04.trans (hb5.mono hb04.size)
    have HO5 : Hid (Owns w5 w.heap.size 5 (.slice (some ⟨g, 0, none⟩) (xs.length + 8) cap) (frameB xs)) := (HO2.out.below hb24 (Nat.le_refl _)).below hb5 (Nat.le_refl _)
    have HV5 : Hid (Has w5 (.slice a0 xs.length cap0) xs) := hv.below hb05 (Nat.le_refl _)
    have HH5 : Hid (Has w5 v5 xs) := hh5
    clear ho3 hb3 ho4 hb4 hb24 hb04 hb5 hh5 HO2 hb02 hb2 hb1 hcl hfr hv
    go_wp2_with fail
    refine same_mono (same_any _ _ xs xs _ HH5.out HV5.out hB hB) ?_
    rw [show (xs == xs) = true from by simp]
    obtain ⟨m, hm, hml⟩ : ∃ m : Nat, bit % (8 * ((xs.length : Int) + 4)) = (m : Int) ∧ m < 8 * (xs.length + 4) := by
      have h1 := Int.emod_nonneg bit (show 8 * ((xs.length : Int) + 4) ≠ 0 by omega)
      have h2 := Int.emod_lt_of_pos bit (show 0 < 8 * ((xs.length : Int) + 4) by omega)
      exact ⟨(bit % (8 * ((xs.length : Int) + 4))).toNat, by omega, by omega⟩
    obtain ⟨g', cap', hgc, _, hgw5, _, hcl, hfr⟩ := HO5.out.form (by rw [HFL.out]; omega)
    obtain ⟨rfl, rfl⟩ : g' = g ∧ cap' = cap := by
      simp only [Value.slice.injEq, Option.some.injEq, Addr.mk.injEq] at hgc
      exact ⟨hgc.1.1.symm, hgc.2.2.symm⟩
    clear hgc
    rw [HFL.out] at hcl
    have hc := hcl (4 + m / 8) (by omega)
    have hf := hfr (4 + m / 8)
    have hxb := hfB.getD (4 + m / 8)
    clear hcl hfr HV5 HH5
    obtain ⟨x, hx⟩ : ∃ x, x = (frameB xs).getD (4 + m / 8) 0 := ⟨_, rfl⟩
    rw [← hx] at hc hxb
    have HX : Hid (x = (frameB xs).getD (4 + m / 8) 0) := hx
    clear hx
    go_wp2_with fail
    have hst := Owns.store (xs := frameB xs) (by rw [HFL.out]; exact HO5.out) (4 + m / 8) (bits BinOp.xor IntKind.u8 x (2 ^ (m % 8) % 256))
    have hyb : 0 ≤ bits BinOp.xor IntKind.u8 x (2 ^ (m % 8) % 256) ∧ bits BinOp.xor IntKind.u8 x (2 ^ (m % 8) % 256) ≤ 255 := ⟨bits_lo_u8 _ _ _, bits_hi_u8 _ _ _⟩
    have hyn : bits BinOp.xor IntKind.u8 x (2 ^ (m % 8) % 256) ≠ (frameB xs).getD (4 + m / 8) 0 := by rw [← HX.out]; exact flip_ne x m hxb
    rw [HFL.out] at hst
    have hbs : Below w.heap.size w (w5.setCell ⟨g', 4 + m / 8, none⟩ (.int .u8 (bits BinOp.xor IntKind.u8 x (2 ^ (m % 8) % 256)))) := hb05.setCell hBg _
    refine (unframe_any _ ((frameB xs).set (4 + m / 8) (bits BinOp.xor IntKind.u8 x (2 ^ (m % 8) % 256))) _ (hT.below hbs (Nat.le_refl _)) hst.1.has (by rw [List.length_set, HFL.out]; omega) (set_isB hfB _ _ hyb)).mono ?_
    rintro e w6 ⟨v6, rfl, hh6, hb6⟩
    rw [HUT.out (4 + m / 8) _ (by omega) (by omega) hyb hyn]
    have hb06 : Below w.heap.size w w6 := hbs.trans (hb6.mono hbs.size)
    clear hh6 hst hyb hyn hbs hb6 hc hf
    go_wp2_with (go_at_call 7; refine (lives_any _ (hT.below hb06 (Nat.le_refl _))).mono ?_; rintro e w7 ⟨rfl, hb7⟩)
    go_ret
    exact ⟨rfl, hb06.trans (hb7.mono hb06.size)⟩
end Go.Proofs.YtmlekbabofldoabDoor
