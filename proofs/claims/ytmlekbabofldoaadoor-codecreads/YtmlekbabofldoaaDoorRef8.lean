/-
  Contracts: corbelref01's Reader: Num, Int, Text, Bool, Count, End.
-/
import Derived.Test.YtmlekbabofldoaaDoorRef7
namespace Go.Proofs.YtmlekbabofldoaaDoor
open Go.RowKit

theorem getS_zero (xs : List Int) : (getS xs).2 = 0 → (getS xs).1 = 0 := by
  unfold getS
  split
  · intro _; rfl
  · split
    · intro h; simp at h
    · intro _; rfl
theorem getTextS_zero (xs : List Int) : (getTextS xs).2 = 0 → (getTextS xs).1 = [] := by
  unfold getTextS
  split
  · intro _; rfl
  · intro h; simp only at h; omega
theorem getBoolS_zero (xs : List Int) : (getBoolS xs).2 = 0 → (getBoolS xs).1 = false := by
  unfold getBoolS
  split
  · intro _; rfl
  · intro h; simp at h

set_option maxHeartbeats 1000000 in
theorem rnum_any (w : World) (rb L : Nat) (v : Value) (xs : List Int) (wrong : Bool) (h : Rd w rb L v xs wrong) (hI : Inv xs wrong) (hB : IsB xs) (hl : xs.length ≤ 1099511627776) :
    Calls Tryd.prog 36 #[.pointer (some ⟨rb, 0, none⟩)] w fun e w' =>
      e = .returned (.int .u64 (getS xs).1) ∧ (∃ v', Rd w' rb L v' (loseS xs wrong (getS xs).2).1 (loseS xs wrong (getS xs).2).2) ∧ w.grownBy w' (some rb) := by
  have hbd := getS_bd xs
  have hL := Nat.le_of_lt (Nat.lt_of_le_of_lt h.le h.lt)
  have H : Hid (Rd w rb L v xs wrong) := h
  have hlt := h.lt
  have c0 := h.c0
  clear h
  have HC : Hid (Calls Tryd.prog 20 #[v] w fun e w' => e = .returned (.tuple #[.int .u64 (getS xs).1, .int .i64 ((getS xs).2 : Nat)]) ∧ Below w.heap.size w w') :=
    (rget_any v xs w (H.out.has.has hL) hB hl).mono (R' := fun e w' => e = .returned (.tuple #[.int .u64 (getS xs).1, .int .i64 ((getS xs).2 : Nat)]) ∧ Below w.heap.size w w') fun e w' ⟨h1, h2⟩ => ⟨h1, by subst h2; exact Below.refl _ _⟩
  have HZ : Hid ((getS xs).2 = 0 → (getS xs).1 = 0) := getS_zero xs
  generalize getS xs = g at *
  obtain ⟨u, n⟩ := g
  simp only at hbd
  have HC2 : Hid (Calls Tryd.prog 20 #[v] w fun e w' => e = .returned (.tuple #[.int .u64 u, .int .i64 (n : Nat)]) ∧ Below w.heap.size w w') := HC
  clear HC
  by_cases hn : n = 0
  · subst hn
    have hz : u = 0 := HZ.out rfl
    subst hz
    go_enter Tryd.func36, Tryd.ntmps36
    go_wp2_with (first
      | (go_at_call 20; refine HC2.out.mono ?_; rintro e w1 ⟨rfl, hb1⟩)
      | (go_at_call 60; refine (rpass_no _ rb L _ v xs wrong (H.out.below hb1 hlt) (Or.inr rfl)).mono ?_; rintro e w2 ⟨rfl, hr2, hg2⟩))
    go_ret
    exact ⟨rfl, hr2, grown_trans (grown_of_below hb1 (Nat.le_refl _) _) hg2⟩
  · have hwf : wrong = false := by
      cases wrong
      · rfl
      · have := hI rfl; rw [this] at hbd; simp at hbd; omega
    subst hwf
    have HLs : Hid (loseS xs false n = (xs.drop n, false)) := by rw [Hid, loseS, if_neg hn]
    go_enter Tryd.func36, Tryd.ntmps36
    go_wp2_with (first
      | (go_at_call 20; refine HC2.out.mono ?_; rintro e w1 ⟨rfl, hb1⟩)
      | (go_at_call 60; refine (rpass_yes _ rb L n v xs (H.out.below hb1 hlt) (by omega) (by omega) hl).mono ?_; rintro e w2 ⟨rfl, hr2, hg2⟩))
    go_ret
    exact ⟨rfl, by rw [HLs.out]; exact hr2, grown_trans (grown_of_below hb1 (Nat.le_refl _) _) hg2⟩

set_option maxHeartbeats 1000000 in
theorem rtext_any (w : World) (rb L : Nat) (v : Value) (xs : List Int) (wrong : Bool) (h : Rd w rb L v xs wrong) (hI : Inv xs wrong) (hB : IsB xs) (hl : xs.length ≤ 1099511627776) :
    Calls Tryd.prog 40 #[.pointer (some ⟨rb, 0, none⟩)] w fun e w' =>
      e = .returned (.string (strOfNums (getTextS xs).1)) ∧ (∃ v', Rd w' rb L v' (loseS xs wrong (getTextS xs).2).1 (loseS xs wrong (getTextS xs).2).2) ∧ w.grownBy w' (some rb) := by
  have hbd := getTextS_bd xs
  have hL := Nat.le_of_lt (Nat.lt_of_le_of_lt h.le h.lt)
  have H : Hid (Rd w rb L v xs wrong) := h
  have hlt := h.lt
  have c0 := h.c0
  clear h
  have HC : Hid (Calls Tryd.prog 28 #[v] w fun e w' => e = .returned (.tuple #[.string (strOfNums (getTextS xs).1), .int .i64 ((getTextS xs).2 : Nat)]) ∧ Below w.heap.size w w') :=
    rgetText_any v xs w (H.out.has.has hL) hB hl
  have HZ : Hid ((getTextS xs).2 = 0 → (getTextS xs).1 = []) := getTextS_zero xs
  generalize getTextS xs = g at *
  obtain ⟨u, n⟩ := g
  simp only at hbd
  have HC2 : Hid (Calls Tryd.prog 28 #[v] w fun e w' => e = .returned (.tuple #[.string (strOfNums u), .int .i64 (n : Nat)]) ∧ Below w.heap.size w w') := HC
  clear HC
  by_cases hn : n = 0
  · subst hn
    have hz : u = [] := HZ.out rfl
    subst hz
    go_enter Tryd.func40, Tryd.ntmps40
    go_wp2_with (first
      | (go_at_call 28; refine HC2.out.mono ?_; rintro e w1 ⟨rfl, hb1⟩)
      | (go_at_call 60; refine (rpass_no _ rb L _ v xs wrong (H.out.below hb1 hlt) (Or.inr rfl)).mono ?_; rintro e w2 ⟨rfl, hr2, hg2⟩))
    go_ret
    exact ⟨rfl, hr2, grown_trans (grown_of_below hb1 (Nat.le_refl _) _) hg2⟩
  · have hwf : wrong = false := by
      cases wrong
      · rfl
      · have := hI rfl; rw [this] at hbd; simp at hbd; omega
    subst hwf
    have HLs : Hid (loseS xs false n = (xs.drop n, false)) := by rw [Hid, loseS, if_neg hn]
    go_enter Tryd.func40, Tryd.ntmps40
    go_wp2_with (first
      | (go_at_call 28; refine HC2.out.mono ?_; rintro e w1 ⟨rfl, hb1⟩)
      | (go_at_call 60; refine (rpass_yes _ rb L n v xs (H.out.below hb1 hlt) (by omega) (by omega) hl).mono ?_; rintro e w2 ⟨rfl, hr2, hg2⟩))
    go_ret
    exact ⟨rfl, by rw [HLs.out]; exact hr2, grown_trans (grown_of_below hb1 (Nat.le_refl _) _) hg2⟩

set_option maxHeartbeats 1000000 in
theorem rbool_any (w : World) (rb L : Nat) (v : Value) (xs : List Int) (wrong : Bool) (h : Rd w rb L v xs wrong) (hI : Inv xs wrong) (hB : IsB xs) (hl : xs.length ≤ 1099511627776) :
    Calls Tryd.prog 42 #[.pointer (some ⟨rb, 0, none⟩)] w fun e w' =>
      e = .returned (.bool (getBoolS xs).1) ∧ (∃ v', Rd w' rb L v' (loseS xs wrong (getBoolS xs).2).1 (loseS xs wrong (getBoolS xs).2).2) ∧ w.grownBy w' (some rb) := by
  have hbd := getBoolS_bd xs
  have hL := Nat.le_of_lt (Nat.lt_of_le_of_lt h.le h.lt)
  have H : Hid (Rd w rb L v xs wrong) := h
  have hlt := h.lt
  have c0 := h.c0
  clear h
  have HC : Hid (Calls Tryd.prog 30 #[v] w fun e w' => e = .returned (.tuple #[.bool (getBoolS xs).1, .int .i64 ((getBoolS xs).2 : Nat)]) ∧ Below w.heap.size w w') :=
    (rgetBool_any v xs w (H.out.has.has hL) hB hl).mono (R' := fun e w' => e = .returned (.tuple #[.bool (getBoolS xs).1, .int .i64 ((getBoolS xs).2 : Nat)]) ∧ Below w.heap.size w w') fun e w' ⟨h1, h2⟩ => ⟨h1, by subst h2; exact Below.refl _ _⟩
  have HZ : Hid ((getBoolS xs).2 = 0 → (getBoolS xs).1 = false) := getBoolS_zero xs
  generalize getBoolS xs = g at *
  obtain ⟨u, n⟩ := g
  simp only at hbd
  have HC2 : Hid (Calls Tryd.prog 30 #[v] w fun e w' => e = .returned (.tuple #[.bool u, .int .i64 (n : Nat)]) ∧ Below w.heap.size w w') := HC
  clear HC
  by_cases hn : n = 0
  · subst hn
    have hz : u = false := HZ.out rfl
    subst hz
    go_enter Tryd.func42, Tryd.ntmps42
    go_wp2_with (first
      | (go_at_call 30; refine HC2.out.mono ?_; rintro e w1 ⟨rfl, hb1⟩)
      | (go_at_call 60; refine (rpass_no _ rb L _ v xs wrong (H.out.below hb1 hlt) (Or.inr rfl)).mono ?_; rintro e w2 ⟨rfl, hr2, hg2⟩))
    go_ret
    exact ⟨rfl, hr2, grown_trans (grown_of_below hb1 (Nat.le_refl _) _) hg2⟩
  · have hwf : wrong = false := by
      cases wrong
      · rfl
      · have := hI rfl; rw [this] at hbd; simp at hbd; omega
    subst hwf
    have HLs : Hid (loseS xs false n = (xs.drop n, false)) := by rw [Hid, loseS, if_neg hn]
    go_enter Tryd.func42, Tryd.ntmps42
    go_wp2_with (first
      | (go_at_call 30; refine HC2.out.mono ?_; rintro e w1 ⟨rfl, hb1⟩)
      | (go_at_call 60; refine (rpass_yes _ rb L n v xs (H.out.below hb1 hlt) (by omega) (by omega) hl).mono ?_; rintro e w2 ⟨rfl, hr2, hg2⟩))
    go_ret
    exact ⟨rfl, by rw [HLs.out]; exact hr2, grown_trans (grown_of_below hb1 (Nat.le_refl _) _) hg2⟩

set_option maxHeartbeats 400000 in
theorem rint_any (w : World) (rb L : Nat) (v : Value) (xs : List Int) (wrong : Bool) (h : Rd w rb L v xs wrong) (hI : Inv xs wrong) (hB : IsB xs) (hl : xs.length ≤ 1099511627776) :
    Calls Tryd.prog 38 #[.pointer (some ⟨rb, 0, none⟩)] w fun e w' =>
      e = .returned (.int .i64 (zagS (getS xs).1)) ∧ (∃ v', Rd w' rb L v' (loseS xs wrong (getS xs).2).1 (loseS xs wrong (getS xs).2).2) ∧ w.grownBy w' (some rb) := by
  go_enter Tryd.func38, Tryd.ntmps38
  go_wp2_with (first
    | (go_at_call 36; refine (rnum_any _ rb L v xs wrong h hI hB hl).mono ?_; rintro e w1 ⟨rfl, hr1, hg1⟩)
    | (go_at_call 26; refine same_mono (rzag_any _ _) ?_))
  go_ret
  exact ⟨rfl, hr1, hg1⟩

set_option maxHeartbeats 1000000 in
theorem rcount_any (m : Int) (w : World) (rb L : Nat) (v : Value) (xs : List Int) (wrong : Bool) (h : Rd w rb L v xs wrong) (hI : Inv xs wrong) (hB : IsB xs) (hl : xs.length ≤ 1099511627776) (hm : m ≤ 9223372036854775807) :
    Calls Tryd.prog 44 #[.pointer (some ⟨rb, 0, none⟩), .int .i64 m] w fun e w' =>
      e = .returned (.int .i64 (countS m xs).1) ∧ (∃ v', Rd w' rb L v' (loseS xs wrong (countS m xs).2).1 (loseS xs wrong (countS m xs).2).2) ∧ w.grownBy w' (some rb) := by
  have hbd := getS_bd xs
  have HN : Hid (Calls Tryd.prog 36 #[.pointer (some ⟨rb, 0, none⟩)] w fun e w' =>
      e = .returned (.int .u64 (getS xs).1) ∧ (∃ v', Rd w' rb L v' (loseS xs wrong (getS xs).2).1 (loseS xs wrong (getS xs).2).2) ∧ w.grownBy w' (some rb)) := rnum_any w rb L v xs wrong h hI hB hl
  have HT : Hid (countS m xs = if m < 0 ∨ m < (getS xs).1 then (0, 0) else getS xs) := rfl
  clear h
  generalize getS xs = g at *
  obtain ⟨u, n⟩ := g
  simp only at hbd
  have HN2 : Hid (Calls Tryd.prog 36 #[.pointer (some ⟨rb, 0, none⟩)] w fun e w' =>
      e = .returned (.int .u64 u) ∧ (∃ v', Rd w' rb L v' (loseS xs wrong n).1 (loseS xs wrong n).2) ∧ w.grownBy w' (some rb)) := HN
  clear HN
  by_cases hbad : m < 0 ∨ m < u
  · have HT0 : Hid (countS m xs = (0, 0)) := by rw [Hid, HT.out, if_pos hbad]
    have HL0 : Hid (loseS xs wrong 0 = ([], true)) := rfl
    clear HT
    rcases (show m < 0 ∨ (¬ m < 0 ∧ m < u) by omega) with hm0 | ⟨hm0, hmu⟩
    all_goals
      clear hbad
      go_enter Tryd.func44, Tryd.ntmps44
      go_wp2_with (first
        | (go_at_call 36; refine HN2.out.mono ?_; rintro e w1 ⟨rfl, ⟨v1, hr1⟩, hg1⟩)
        | (go_at_call 60; refine (rpass_no _ rb L _ v1 _ _ hr1 (Or.inr rfl)).mono ?_; rintro e w2 ⟨rfl, hr2, hg2⟩))
      go_ret
      rw [HT0.out]
      exact ⟨rfl, hr2, grown_trans hg1 hg2⟩
  · have HT0 : Hid (countS m xs = (u, n)) := by rw [Hid, HT.out, if_neg hbad]
    have hm0 : ¬ m < 0 := fun h => hbad (Or.inl h)
    have hmu : ¬ m < u := fun h => hbad (Or.inr h)
    clear HT hbad
    go_enter Tryd.func44, Tryd.ntmps44
    go_wp2_with (go_at_call 36; refine HN2.out.mono ?_; rintro e w1 ⟨rfl, hr1, hg1⟩)
    go_ret
    rw [HT0.out]
    exact ⟨rfl, hr1, hg1⟩

set_option maxHeartbeats 400000 in
theorem rend_any (w : World) (rb L : Nat) (v : Value) (xs : List Int) (wrong : Bool) (h : Rd w rb L v xs wrong) :
    Calls Tryd.prog 46 #[.pointer (some ⟨rb, 0, none⟩)] w fun e w' => e = .returned (.bool (xs.isEmpty && !wrong)) ∧ w' = w := by
  have c0 := h.c0
  have c1 := h.c1
  obtain ⟨p, c, rfl, _, _, _⟩ := h.has
  clear h
  have hb : ((xs.length : Int) == 0) = xs.isEmpty := by
    cases xs with
    | nil => rfl
    | cons a l => simp; omega
  generalize xs.isEmpty = emp at *
  generalize xs.length = n at *
  have HB : Hid (((n : Int) == 0) = emp) := hb
  cases wrong <;> cases emp
  all_goals
    have hb1 := HB.out
    clear HB hb
    go_enter Tryd.func46, Tryd.ntmps46
    go_wp2
    go_ret
    exact ⟨rfl, rfl⟩
end Go.Proofs.YtmlekbabofldoaaDoor
