/-
  Contracts: corbelref01's Reader: Num, Int, Text, Bool, Count, End.
-/
import Derived.Test.YtomhmoedicajoaaRef7
namespace Go.Proofs.Ytomhmoedicajoaa
open Go.RowKit

theorem getS_zero (xs : List Int) : (getS xs).2 = 0 → (getS xs).1 = 0 := by
  unfold getS
  split
  · intro _; rfl
  · split
    · intro h; simp at h
    · intro _; rfl
theorem getTextS_zero (xs : List Int) : (getTextS xs).2 = 0 → (getTextS xs).1 = [] := by
  unfold getTextS
  split
  · intro _; rfl
  · intro h; simp only at h; omega
theorem getBoolS_zero (xs : List Int) : (getBoolS xs).2 = 0 → (getBoolS xs).1 = false := by
  unfold getBoolS
  split
  · intro _; rfl
  · intro h; simp at h

set_option maxRecDepth 100000 in
set_option maxHeartbeats 1000000 in
theorem rnum_any (w : World) (rb L : Nat) (v : Value) (xs : List Int) (wrong : Bool) (h : Rd w rb L v xs wrong) (hI : Inv xs wrong) (hB : IsB xs) (hl : xs.length ≤ 1099511627776) :
    Calls Try.prog 47 #[.pointer (some ⟨rb, 0, none⟩)] w fun e w' =>
      e = .returned (.int .u64 (getS xs).1) ∧ (∃ v', Rd w' rb L v' (loseS xs wrong (getS xs).2).1 (loseS xs wrong (getS xs).2).2) ∧ w.grownBy w' (some rb) := by
  have hbd := getS_bd xs
  have hL := Nat.le_of_lt (Nat.lt_of_le_of_lt h.le h.lt)
  have H : Hid (Rd w rb L v xs wrong) := h
  have hlt := h.lt
  have c0 := h.c0
  clear h
  have HC : Hid (Calls Try.prog 82 #[v] w fun e w' => e = .returned (.tuple #[.int .u64 (getS xs).1, .int .i64 ((getS xs).2 : Nat)]) ∧ Below w.heap.size w w') :=
    (rget_cod v xs w (H.out.has.has hL) hB hl).mono (R' := fun e w' => e = .returned (.tuple #[.int .u64 (getS xs).1, .int .i64 ((getS xs).2 : Nat)]) ∧ Below w.heap.size w w') fun e w' ⟨h1, h2⟩ => ⟨h1, by subst h2; exact Below.refl _ _⟩
  have HZ : Hid ((getS xs).2 = 0 → (getS xs).1 = 0) := getS_zero xs
  generalize getS xs = g at *
  obtain ⟨u, n⟩ := g
  simp only at hbd
  have HC2 : Hid (Calls Try.prog 82 #[v] w fun e w' => e = .returned (.tuple #[.int .u64 u, .int .i64 (n : Nat)]) ∧ Below w.heap.size w w') := HC
  clear HC
  by_cases hn : n = 0
  · subst hn
    have hz : u = 0 := HZ.out rfl
    subst hz
    go_enter Try.func47, Try.ntmps47
    go_wp2_with (first
      | (go_at_call 82; refine HC2.out.mono ?_; rintro e w1 ⟨rfl, hb1⟩)
      | (go_at_call 77; refine (rpass_no _ rb L _ v xs wrong (H.out.below hb1 hlt) (Or.inr rfl)).mono ?_; rintro e w2 ⟨rfl, hr2, hg2⟩))
    go_ret
    exact ⟨rfl, hr2, grown_trans (grown_of_below hb1 (Nat.le_refl _) _) hg2⟩
  · have hwf : wrong = false := by
      cases wrong
      · rfl
      · have := hI rfl; rw [this] at hbd; simp at hbd; omega
    subst hwf
    have HLs : Hid (loseS xs false n = (xs.drop n, false)) := by rw [Hid, loseS, if_neg hn]
    go_enter Try.func47, Try.ntmps47
    go_wp2_with (first
      | (go_at_call 82; refine HC2.out.mono ?_; rintro e w1 ⟨rfl, hb1⟩)
      | (go_at_call 77; refine (rpass_yes _ rb L n v xs (H.out.below hb1 hlt) (by omega) (by omega) hl).mono ?_; rintro e w2 ⟨rfl, hr2, hg2⟩))
    go_ret
    exact ⟨rfl, by rw [HLs.out]; exact hr2, grown_trans (grown_of_below hb1 (Nat.le_refl _) _) hg2⟩

set_option maxRecDepth 100000 in
set_option maxHeartbeats 1000000 in
theorem rtext_any (w : World) (rb L : Nat) (v : Value) (xs : List Int) (wrong : Bool) (h : Rd w rb L v xs wrong) (hI : Inv xs wrong) (hB : IsB xs) (hl : xs.length ≤ 1099511627776) :
    Calls Try.prog 42 #[.pointer (some ⟨rb, 0, none⟩)] w fun e w' =>
      e = .returned (.string (strOfNums (getTextS xs).1)) ∧ (∃ v', Rd w' rb L v' (loseS xs wrong (getTextS xs).2).1 (loseS xs wrong (getTextS xs).2).2) ∧ w.grownBy w' (some rb) := by
  have hbd := getTextS_bd xs
  have hL := Nat.le_of_lt (Nat.lt_of_le_of_lt h.le h.lt)
  have H : Hid (Rd w rb L v xs wrong) := h
  have hlt := h.lt
  have c0 := h.c0
  clear h
  have HC : Hid (Calls Try.prog 76 #[v] w fun e w' => e = .returned (.tuple #[.string (strOfNums (getTextS xs).1), .int .i64 ((getTextS xs).2 : Nat)]) ∧ Below w.heap.size w w') :=
    rgetText_any v xs w (H.out.has.has hL) hB hl
  have HZ : Hid ((getTextS xs).2 = 0 → (getTextS xs).1 = []) := getTextS_zero xs
  generalize getTextS xs = g at *
  obtain ⟨u, n⟩ := g
  simp only at hbd
  have HC2 : Hid (Calls Try.prog 76 #[v] w fun e w' => e = .returned (.tuple #[.string (strOfNums u), .int .i64 (n : Nat)]) ∧ Below w.heap.size w w') := HC
  clear HC
  by_cases hn : n = 0
  · subst hn
    have hz : u = [] := HZ.out rfl
    subst hz
    go_enter Try.func42, Try.ntmps42
    go_wp2_with (first
      | (go_at_call 76; refine HC2.out.mono ?_; rintro e w1 ⟨rfl, hb1⟩)
      | (go_at_call 77; refine (rpass_no _ rb L _ v xs wrong (H.out.below hb1 hlt) (Or.inr rfl)).mono ?_; rintro e w2 ⟨rfl, hr2, hg2⟩))
    go_ret
    exact ⟨rfl, hr2, grown_trans (grown_of_below hb1 (Nat.le_refl _) _) hg2⟩
  · have hwf : wrong = false := by
      cases wrong
      · rfl
      · have := hI rfl; rw [this] at hbd; simp at hbd; omega
    subst hwf
    have HLs : Hid (loseS xs false n = (xs.drop n, false)) := by rw [Hid, loseS, if_neg hn]
    go_enter Try.func42, Try.ntmps42
    go_wp2_with (first
      | (go_at_call 76; refine HC2.out.mono ?_; rintro e w1 ⟨rfl, hb1⟩)
      | (go_at_call 77; refine (rpass_yes _ rb L n v xs (H.out.below hb1 hlt) (by omega) (by omega) hl).mono ?_; rintro e w2 ⟨rfl, hr2, hg2⟩))
    go_ret
    exact ⟨rfl, by rw [HLs.out]; exact hr2, grown_trans (grown_of_below hb1 (Nat.le_refl _) _) hg2⟩

set_option maxRecDepth 100000 in
set_option maxHeartbeats 1000000 in
theorem rbool_any (w : World) (rb L : Nat) (v : Value) (xs : List Int) (wrong : Bool) (h : Rd w rb L v xs wrong) (hI : Inv xs wrong) (hB : IsB xs) (hl : xs.length ≤ 1099511627776) :
    Calls Try.prog 46 #[.pointer (some ⟨rb, 0, none⟩)] w fun e w' =>
      e = .returned (.bool (getBoolS xs).1) ∧ (∃ v', Rd w' rb L v' (loseS xs wrong (getBoolS xs).2).1 (loseS xs wrong (getBoolS xs).2).2) ∧ w.grownBy w' (some rb) := by
  have hbd := getBoolS_bd xs
  have hL := Nat.le_of_lt (Nat.lt_of_le_of_lt h.le h.lt)
  have H : Hid (Rd w rb L v xs wrong) := h
  have hlt := h.lt
  have c0 := h.c0
  clear h
  have HC : Hid (Calls Try.prog 81 #[v] w fun e w' => e = .returned (.tuple #[.bool (getBoolS xs).1, .int .i64 ((getBoolS xs).2 : Nat)]) ∧ Below w.heap.size w w') :=
    (rgetBool_any v xs w (H.out.has.has hL) hB hl).mono (R' := fun e w' => e = .returned (.tuple #[.bool (getBoolS xs).1, .int .i64 ((getBoolS xs).2 : Nat)]) ∧ Below w.heap.size w w') fun e w' ⟨h1, h2⟩ => ⟨h1, by subst h2; exact Below.refl _ _⟩
  have HZ : Hid ((getBoolS xs).2 = 0 → (getBoolS xs).1 = false) := getBoolS_zero xs
  generalize getBoolS xs = g at *
  obtain ⟨u, n⟩ := g
  simp only at hbd
  have HC2 : Hid (Calls Try.prog 81 #[v] w fun e w' => e = .returned (.tuple #[.bool u, .int .i64 (n : Nat)]) ∧ Below w.heap.size w w') := HC
  clear HC
  by_cases hn : n = 0
  · subst hn
    have hz : u = false := HZ.out rfl
    subst hz
    go_enter Try.func46, Try.ntmps46
    go_wp2_with (first
      | (go_at_call 81; refine HC2.out.mono ?_; rintro e w1 ⟨rfl, hb1⟩)
      | (go_at_call 77; refine (rpass_no _ rb L _ v xs wrong (H.out.below hb1 hlt) (Or.inr rfl)).mono ?_; rintro e w2 ⟨rfl, hr2, hg2⟩))
    go_ret
    exact ⟨rfl, hr2, grown_trans (grown_of_below hb1 (Nat.le_refl _) _) hg2⟩
  · have hwf : wrong = false := by
      cases wrong
      · rfl
      · have := hI rfl; rw [this] at hbd; simp at hbd; omega
    subst hwf
    have HLs : Hid (loseS xs false n = (xs.drop n, false)) := by rw [Hid, loseS, if_neg hn]
    go_enter Try.func46, Try.ntmps46
    go_wp2_with (first
      | (go_at_call 81; refine HC2.out.mono ?_; rintro e w1 ⟨rfl, hb1⟩)
      | (go_at_call 77; refine (rpass_yes _ rb L n v xs (H.out.below hb1 hlt) (by omega) (by omega) hl).mono ?_; rintro e w2 ⟨rfl, hr2, hg2⟩))
    go_ret
    exact ⟨rfl, by rw [HLs.out]; exact hr2, grown_trans (grown_of_below hb1 (Nat.le_refl _) _) hg2⟩

set_option maxRecDepth 100000 in
set_option maxHeartbeats 1000000 in
theorem rint_any (w : World) (rb L : Nat) (v : Value) (xs : List Int) (wrong : Bool) (h : Rd w rb L v xs wrong) (hI : Inv xs wrong) (hB : IsB xs) (hl : xs.length ≤ 1099511627776) :
    Calls Try.prog 41 #[.pointer (some ⟨rb, 0, none⟩)] w fun e w' =>
      e = .returned (.int .i64 (zagS (getS xs).1)) ∧ (∃ v', Rd w' rb L v' (loseS xs wrong (getS xs).2).1 (loseS xs wrong (getS xs).2).2) ∧ w.grownBy w' (some rb) := by
  go_enter Try.func41, Try.ntmps41
  go_wp2_with (first
    | (go_at_call 47; refine (rnum_any _ rb L v xs wrong h hI hB hl).mono ?_; rintro e w1 ⟨rfl, hr1, hg1⟩)
    | (go_at_call 75; refine same_mono (rzag_any _ _) ?_))
  go_ret
  exact ⟨rfl, hr1, hg1⟩

set_option maxRecDepth 100000 in
set_option maxHeartbeats 1000000 in
theorem rend_any (w : World) (rb L : Nat) (v : Value) (xs : List Int) (wrong : Bool) (h : Rd w rb L v xs wrong) :
    Calls Try.prog 43 #[.pointer (some ⟨rb, 0, none⟩)] w fun e w' => e = .returned (.bool (xs.isEmpty && !wrong)) ∧ w' = w := by
  have c0 := h.c0
  have c1 := h.c1
  obtain ⟨p, c, rfl, _, _, _⟩ := h.has
  clear h
  have hb : ((xs.length : Int) == 0) = xs.isEmpty := by
    cases xs with
    | nil => rfl
    | cons a l => simp; omega
  generalize xs.isEmpty = emp at *
  generalize xs.length = n at *
  have HB : Hid (((n : Int) == 0) = emp) := hb
  cases wrong <;> cases emp
  all_goals
    have hb1 := HB.out
    clear HB hb
    go_enter Try.func43, Try.ntmps43
    go_wp2
    go_ret
    exact ⟨rfl, rfl⟩
end Go.Proofs.Ytomhmoedicajoaa
