import Derived.Test.YtnbaoimjcaeeaaaGreatImBTo
import Derived.Laws.StructEq
import Derived.Shelf.SlicesE.Kit
/-
  Contracts: corbelref01's Reader: Num, Int, Text, Bool, Count, End.
-/
namespace Go.Proofs.YtnbaoimjcaeeaaaGreat
open Go.RowKit

theorem getS_zero (xs : List Int) : (getS xs).2 = 0 → (getS xs).1 = 0 := by
  unfold getS
  split
  · intro _; rfl
  · split
    · intro h; simp at h
    · intro _; rfl
theorem getTextS_zero (xs : List Int) : (getTextS xs).2 = 0 → (getTextS xs).1 = [] := by
  unfold getTextS
  split
  · intro _; rfl
  · intro h; simp only at h; omega
theorem getBoolS_zero (xs : List Int) : (getBoolS xs).2 = 0 → (getBoolS xs).1 = false := by
  unfold getBoolS
  split
  · intro _; rfl
  · intro h; simp at h

set_option maxRecDepth 100000 in
set_option maxHeartbeats 1000000 in
theorem rnum_any (w : World) (rb L : Nat) (v : Value) (xs : List Int) (wrong : Bool) (h : Rd w rb L v xs wrong) (hI : Inv xs wrong) (hB : IsB xs) (hl : xs.length ≤ 1099511627776) :
    Calls Tryz.prog 77 #[.pointer (some ⟨rb, 0, none⟩)] w fun e w' =>
      e = .returned (.int .u64 (getS xs).1) ∧ (∃ v', Rd w' rb L v' (loseS xs wrong (getS xs).2).1 (loseS xs wrong (getS xs).2).2) ∧ w.grownBy w' (some rb) := by
  have hbd := getS_bd xs
  have hL := Nat.le_of_lt (Nat.lt_of_le_of_lt h.le h.lt)
  have H : Hid (Rd w rb L v xs wrong) := h
  have hlt := h.lt
  have c0 := h.c0
  clear h
  have HC : Hid (Calls Tryz.prog 110 #[v] w fun e w' => e = .returned (.tuple #[.int .u64 (getS xs).1, .int .i64 ((getS xs).2 : Nat)]) ∧ Below w.heap.size w w') :=
    (rget_cod v xs w (H.out.has.has hL) hB hl).mono (R' := fun e w' => e = .returned (.tuple #[.int .u64 (getS xs).1, .int .i64 ((getS xs).2 : Nat)]) ∧ Below w.heap.size w w') fun e w' ⟨h1, h2⟩ => ⟨h1, by subst h2; exact Below.refl _ _⟩
  have HZ : Hid ((getS xs).2 = 0 → (getS xs).1 = 0) := getS_zero xs
  generalize getS xs = g at *
  obtain ⟨u, n⟩ := g
  simp only at hbd
  have HC2 : Hid (Calls Tryz.prog 110 #[v] w fun e w' => e = .returned (.tuple #[.int .u64 u, .int .i64 (n : Nat)]) ∧ Below w.heap.size w w') := HC
  clear HC
  by_cases hn : n = 0
  · subst hn
    have hz : u = 0 := HZ.out rfl
    subst hz
    go_enter Tryz.func77, Tryz.ntmps77
    go_wp2_with (first
      | (go_at_call 110; refine HC2.out.mono ?_; rintro e w1 ⟨rfl, hb1⟩)
      | (go_at_call 83; refine (rpass_no _ rb L _ v xs wrong (H.out.below hb1 hlt) (Or.inr rfl)).mono ?_; rintro e w2 ⟨rfl, hr2, hg2⟩))
    go_ret
    exact ⟨rfl, hr2, grown_trans (grown_of_below hb1 (Nat.le_refl _) _) hg2⟩
  · have hwf : wrong = false := by
      cases wrong
      · rfl
      · have := hI rfl; rw [this] at hbd; simp at hbd; omega
    subst hwf
    have HLs : Hid (loseS xs false n = (xs.drop n, false)) := by rw [Hid, loseS, if_neg hn]
    go_enter Tryz.func77, Tryz.ntmps77
    go_wp2_with (first
      | (go_at_call 110; refine HC2.out.mono ?_; rintro e w1 ⟨rfl, hb1⟩)
      | (go_at_call 83; refine (rpass_yes _ rb L n v xs (H.out.below hb1 hlt) (by omega) (by omega) hl).mono ?_; rintro e w2 ⟨rfl, hr2, hg2⟩))
    go_ret
    exact ⟨rfl, by rw [HLs.out]; exact hr2, grown_trans (grown_of_below hb1 (Nat.le_refl _) _) hg2⟩

set_option maxRecDepth 100000 in
set_option maxHeartbeats 1000000 in
theorem rtext_any (w : World) (rb L : Nat) (v : Value) (xs : List Int) (wrong : Bool) (h : Rd w rb L v xs wrong) (hI : Inv xs wrong) (hB : IsB xs) (hl : xs.length ≤ 1099511627776) :
    Calls Tryz.prog 72 #[.pointer (some ⟨rb, 0, none⟩)] w fun e w' =>
      e = .returned (.string (strOfNums (getTextS xs).1)) ∧ (∃ v', Rd w' rb L v' (loseS xs wrong (getTextS xs).2).1 (loseS xs wrong (getTextS xs).2).2) ∧ w.grownBy w' (some rb) := by
  have hbd := getTextS_bd xs
  have hL := Nat.le_of_lt (Nat.lt_of_le_of_lt h.le h.lt)
  have H : Hid (Rd w rb L v xs wrong) := h
  have hlt := h.lt
  have c0 := h.c0
  clear h
  have HC : Hid (Calls Tryz.prog 105 #[v] w fun e w' => e = .returned (.tuple #[.string (strOfNums (getTextS xs).1), .int .i64 ((getTextS xs).2 : Nat)]) ∧ Below w.heap.size w w') :=
    rgetText_any v xs w (H.out.has.has hL) hB hl
  have HZ : Hid ((getTextS xs).2 = 0 → (getTextS xs).1 = []) := getTextS_zero xs
  generalize getTextS xs = g at *
  obtain ⟨u, n⟩ := g
  simp only at hbd
  have HC2 : Hid (Calls Tryz.prog 105 #[v] w fun e w' => e = .returned (.tuple #[.string (strOfNums u), .int .i64 (n : Nat)]) ∧ Below w.heap.size w w') := HC
  clear HC
  by_cases hn : n = 0
  · subst hn
    have hz : u = [] := HZ.out rfl
    subst hz
    go_enter Tryz.func72, Tryz.ntmps72
    go_wp2_with (first
      | (go_at_call 105; refine HC2.out.mono ?_; rintro e w1 ⟨rfl, hb1⟩)
      | (go_at_call 83; refine (rpass_no _ rb L _ v xs wrong (H.out.below hb1 hlt) (Or.inr rfl)).mono ?_; rintro e w2 ⟨rfl, hr2, hg2⟩))
    go_ret
    exact ⟨rfl, hr2, grown_trans (grown_of_below hb1 (Nat.le_refl _) _) hg2⟩
  · have hwf : wrong = false := by
      cases wrong
      · rfl
      · have := hI rfl; rw [this] at hbd; simp at hbd; omega
    subst hwf
    have HLs : Hid (loseS xs false n = (xs.drop n, false)) := by rw [Hid, loseS, if_neg hn]
    go_enter Tryz.func72, Tryz.ntmps72
    go_wp2_with (first
      | (go_at_call 105; refine HC2.out.mono ?_; rintro e w1 ⟨rfl, hb1⟩)
      | (go_at_call 83; refine (rpass_yes _ rb L n v xs (H.out.below hb1 hlt) (by omega) (by omega) hl).mono ?_; rintro e w2 ⟨rfl, hr2, hg2⟩))
    go_ret
    exact ⟨rfl, by rw [HLs.out]; exact hr2, grown_trans (grown_of_below hb1 (Nat.le_refl _) _) hg2⟩

set_option maxRecDepth 100000 in
set_option maxHeartbeats 1000000 in
theorem rbool_any (w : World) (rb L : Nat) (v : Value) (xs : List Int) (wrong : Bool) (h : Rd w rb L v xs wrong) (hI : Inv xs wrong) (hB : IsB xs) (hl : xs.length ≤ 1099511627776) :
    Calls Tryz.prog 46 #[.pointer (some ⟨rb, 0, none⟩)] w fun e w' =>
      e = .returned (.bool (getBoolS xs).1) ∧ (∃ v', Rd w' rb L v' (loseS xs wrong (getBoolS xs).2).1 (loseS xs wrong (getBoolS xs).2).2) ∧ w.grownBy w' (some rb) := by
  have hbd := getBoolS_bd xs
  have hL := Nat.le_of_lt (Nat.lt_of_le_of_lt h.le h.lt)
  have H : Hid (Rd w rb L v xs wrong) := h
  have hlt := h.lt
  have c0 := h.c0
  clear h
  have HC : Hid (Calls Tryz.prog 82 #[v] w fun e w' => e = .returned (.tuple #[.bool (getBoolS xs).1, .int .i64 ((getBoolS xs).2 : Nat)]) ∧ Below w.heap.size w w') :=
    (rgetBool_any v xs w (H.out.has.has hL) hB hl).mono (R' := fun e w' => e = .returned (.tuple #[.bool (getBoolS xs).1, .int .i64 ((getBoolS xs).2 : Nat)]) ∧ Below w.heap.size w w') fun e w' ⟨h1, h2⟩ => ⟨h1, by subst h2; exact Below.refl _ _⟩
  have HZ : Hid ((getBoolS xs).2 = 0 → (getBoolS xs).1 = false) := getBoolS_zero xs
  generalize getBoolS xs = g at *
  obtain ⟨u, n⟩ := g
  simp only at hbd
  have HC2 : Hid (Calls Tryz.prog 82 #[v] w fun e w' => e = .returned (.tuple #[.bool u, .int .i64 (n : Nat)]) ∧ Below w.heap.size w w') := HC
  clear HC
  by_cases hn : n = 0
  · subst hn
    have hz : u = false := HZ.out rfl
    subst hz
    go_enter Tryz.func46, Tryz.ntmps46
    go_wp2_with (first
      | (go_at_call 82; refine HC2.out.mono ?_; rintro e w1 ⟨rfl, hb1⟩)
      | (go_at_call 83; refine (rpass_no _ rb L _ v xs wrong (H.out.below hb1 hlt) (Or.inr rfl)).mono ?_; rintro e w2 ⟨rfl, hr2, hg2⟩))
    go_ret
    exact ⟨rfl, hr2, grown_trans (grown_of_below hb1 (Nat.le_refl _) _) hg2⟩
  · have hwf : wrong = false := by
      cases wrong
      · rfl
      · have := hI rfl; rw [this] at hbd; simp at hbd; omega
    subst hwf
    have HLs : Hid (loseS xs false n = (xs.drop n, false)) := by rw [Hid, loseS, if_neg hn]
    go_enter Tryz.func46, Tryz.ntmps46
    go_wp2_with (first
      | (go_at_call 82; refine HC2.out.mono ?_; rintro e w1 ⟨rfl, hb1⟩)
      | (go_at_call 83; refine (rpass_yes _ rb L n v xs (H.out.below hb1 hlt) (by omega) (by omega) hl).mono ?_; rintro e w2 ⟨rfl, hr2, hg2⟩))
    go_ret
    exact ⟨rfl, by rw [HLs.out]; exact hr2, grown_trans (grown_of_below hb1 (Nat.le_refl _) _) hg2⟩

set_option maxRecDepth 100000 in
set_option maxHeartbeats 1000000 in
theorem rint_any (w : World) (rb L : Nat) (v : Value) (xs : List Int) (wrong : Bool) (h : Rd w rb L v xs wrong) (hI : Inv xs wrong) (hB : IsB xs) (hl : xs.length ≤ 1099511627776) :
    Calls Tryz.prog 35 #[.pointer (some ⟨rb, 0, none⟩)] w fun e w' =>
      e = .returned (.int .i64 (zagS (getS xs).1)) ∧ (∃ v', Rd w' rb L v' (loseS xs wrong (getS xs).2).1 (loseS xs wrong (getS xs).2).2) ∧ w.grownBy w' (some rb) := by
  go_enter Tryz.func35, Tryz.ntmps35
  go_wp2_with (first
    | (go_at_call 77; refine (rnum_any _ rb L v xs wrong h hI hB hl).mono ?_; rintro e w1 ⟨rfl, hr1, hg1⟩)
    | (go_at_call 76; refine same_mono (rzag_any _ _) ?_))
  go_ret
  exact ⟨rfl, hr1, hg1⟩

set_option maxRecDepth 100000 in
set_option maxHeartbeats 1000000 in
theorem rcount_cod (m : Int) (w : World) (rb L : Nat) (v : Value) (xs : List Int) (wrong : Bool) (h : Rd w rb L v xs wrong) (hI : Inv xs wrong) (hB : IsB xs) (hl : xs.length ≤ 1099511627776) (hm : m ≤ 9223372036854775807) :
    Calls Tryz.prog 47 #[.pointer (some ⟨rb, 0, none⟩), .int .i64 m] w fun e w' =>
      e = .returned (.int .i64 (countS m xs).1) ∧ (∃ v', Rd w' rb L v' (loseS xs wrong (countS m xs).2).1 (loseS xs wrong (countS m xs).2).2) ∧ w.grownBy w' (some rb) := by
  have hbd := getS_bd xs
  have HN : Hid (Calls Tryz.prog 77 #[.pointer (some ⟨rb, 0, none⟩)] w fun e w' =>
      e = .returned (.int .u64 (getS xs).1) ∧ (∃ v', Rd w' rb L v' (loseS xs wrong (getS xs).2).1 (loseS xs wrong (getS xs).2).2) ∧ w.grownBy w' (some rb)) := rnum_any w rb L v xs wrong h hI hB hl
  have HT : Hid (countS m xs = if m < 0 ∨ m < (getS xs).1 then (0, 0) else getS xs) := rfl
  clear h
  generalize getS xs = g at *
  obtain ⟨u, n⟩ := g
  simp only at hbd
  have HN2 : Hid (Calls Tryz.prog 77 #[.pointer (some ⟨rb, 0, none⟩)] w fun e w' =>
      e = .returned (.int .u64 u) ∧ (∃ v', Rd w' rb L v' (loseS xs wrong n).1 (loseS xs wrong n).2) ∧ w.grownBy w' (some rb)) := HN
  clear HN
  by_cases hbad : m < 0 ∨ m < u
  · have HT0 : Hid (countS m xs = (0, 0)) := by rw [Hid, HT.out, if_pos hbad]
    have HL0 : Hid (loseS xs wrong 0 = ([], true)) := rfl
    clear HT
    rcases (show m < 0 ∨ (¬ m < 0 ∧ m < u) by omega) with hm0 | ⟨hm0, hmu⟩
    all_goals
      clear hbad
      go_enter Tryz.func47, Tryz.ntmps47
      go_wp2_with (first
        | (go_at_call 77; refine HN2.out.mono ?_; rintro e w1 ⟨rfl, ⟨v1, hr1⟩, hg1⟩)
        | (go_at_call 83; refine (rpass_no _ rb L _ v1 _ _ hr1 (Or.inr rfl)).mono ?_; rintro e w2 ⟨rfl, hr2, hg2⟩))
      go_ret
      rw [HT0.out]
      exact ⟨rfl, hr2, grown_trans hg1 hg2⟩
  · have HT0 : Hid (countS m xs = (u, n)) := by rw [Hid, HT.out, if_neg hbad]
    have hm0 : ¬ m < 0 := fun h => hbad (Or.inl h)
    have hmu : ¬ m < u := fun h => hbad (Or.inr h)
    clear HT hbad
    go_enter Tryz.func47, Tryz.ntmps47
    go_wp2_with (go_at_call 77; refine HN2.out.mono ?_; rintro e w1 ⟨rfl, hr1, hg1⟩)
    go_ret
    rw [HT0.out]
    exact ⟨rfl, hr1, hg1⟩

set_option maxRecDepth 100000 in
set_option maxHeartbeats 1000000 in
theorem rend_any (w : World) (rb L : Nat) (v : Value) (xs : List Int) (wrong : Bool) (h : Rd w rb L v xs wrong) :
    Calls Tryz.prog 30 #[.pointer (some ⟨rb, 0, none⟩)] w fun e w' => e = .returned (.bool (xs.isEmpty && !wrong)) ∧ w' = w := by
  have c0 := h.c0
  have c1 := h.c1
  obtain ⟨p, c, rfl, _, _, _⟩ := h.has
  clear h
  have hb : ((xs.length : Int) == 0) = xs.isEmpty := by
    cases xs with
    | nil => rfl
    | cons a l => simp; omega
  generalize xs.isEmpty = emp at *
  generalize xs.length = n at *
  have HB : Hid (((n : Int) == 0) = emp) := hb
  cases wrong <;> cases emp
  all_goals
    have hb1 := HB.out
    clear HB hb
    go_enter Tryz.func30, Tryz.ntmps30
    go_wp2
    go_ret
    exact ⟨rfl, rfl⟩
end Go.Proofs.YtnbaoimjcaeeaaaGreat

/-
  Commands: as plain values, which are good, and '==' of two of them.
-/
namespace Go.Proofs.YtnbaoimjcaeeaaaGreat
open Go.RowKit Go.Lib

abbrev em9 : ByteArray := ⟨#[]⟩

/-- A command. -/
structure Cmd9 where
  k : Int
  s : Int
  q : Int
  key : ByteArray
  old : ByteArray
  val : ByteArray
  unt : ByteArray
  lim : Int

def Cmd9.arr (c : Cmd9) : Array Value := #[.int .i64 c.k, .int .i64 c.s, .int .i64 c.q, .string c.key, .string c.old, .string c.val, .string c.unt, .int .i64 c.lim]

/-- Are two commands the same? -/
def same9 (a b : Cmd9) : Bool := decide (a.k = b.k) && decide (a.s = b.s) && decide (a.q = b.q) && decide (a.key = b.key) && decide (a.old = b.old) && decide (a.val = b.val) && decide (a.unt = b.unt) && decide (a.lim = b.lim)
theorem same9_self (c : Cmd9) : same9 c c = true := by simp [same9]
def isKey9 (s : ByteArray) : Bool := decide (1 ≤ s.size ∧ s.size ≤ 64)
def isVal9 (s : ByteArray) : Bool := decide (s.size ≤ 256)
def isBnd9 (s : ByteArray) : Bool := decide (s.size ≤ 64)
def isLim9 (n : Int) : Bool := decide (1 ≤ n ∧ n ≤ 64)
/-- Of a session, and nothing else than what is named? -/
def asks9 (c n : Cmd9) : Bool := decide (1 ≤ c.s) && decide (1 ≤ c.q) && same9 c ⟨c.k, c.s, c.q, n.key, n.old, n.val, n.unt, n.lim⟩
/-- Which commands are good. -/
def good9 (c : Cmd9) : Bool :=
  if c.k = 1 then same9 c ⟨1, 0, 0, em9, em9, em9, em9, 0⟩
  else if c.k = 2 then decide (1 ≤ c.s) && same9 c ⟨c.k, c.s, 0, em9, em9, em9, em9, 0⟩
  else if c.k = 3 then isKey9 c.key && isVal9 c.val && asks9 c ⟨0, 0, 0, c.key, em9, c.val, em9, 0⟩
  else if c.k = 4 ∨ c.k = 5 then isKey9 c.key && asks9 c ⟨0, 0, 0, c.key, em9, em9, em9, 0⟩
  else if c.k = 6 then isKey9 c.key && isVal9 c.old && isVal9 c.val && asks9 c ⟨0, 0, 0, c.key, c.old, c.val, em9, 0⟩
  else if c.k = 7 then isBnd9 c.key && isBnd9 c.unt && isLim9 c.lim && asks9 c ⟨0, 0, 0, c.key, em9, em9, c.unt, c.lim⟩
  else false
/-- Which only read. -/
def reads9 (c : Cmd9) : Bool := if (c.k = 4 ∨ c.k = 7) ∧ c.s = 0 ∧ c.q = 0 then good9 ⟨c.k, 1, 1, c.key, c.old, c.val, c.unt, c.lim⟩ else false
def changes9 (k : Int) : Bool := decide (k = 3 ∨ k = 5 ∨ k = 6)

theorem toListC {a b : ByteArray} : a.toList = b.toList ↔ a = b := ⟨data_inj, fun h => by rw [h]⟩

set_option maxRecDepth 100000 in
set_option maxHeartbeats 1500000 in
theorem eqlC (k s q : Int) (a b c d : ByteArray) (l k' s' q' : Int) (a' b' c' d' : ByteArray) (l' : Int) (W : World) :
    Sem.run Tryz.prog (binOp .eql 25 (.agg #[.int .i64 k, .int .i64 s, .int .i64 q, .string a, .string b, .string c, .string d, .int .i64 l]) (.agg #[.int .i64 k', .int .i64 s', .int .i64 q', .string a', .string b', .string c', .string d', .int .i64 l'])) W
      = .ok (.bool (same9 ⟨k, s, q, a, b, c, d, l⟩ ⟨k', s', q', a', b', c', d', l'⟩)) W := by
  have u9 := Tryz.underlying9
  have a9 := Tryz.isAgg9
  have z9 := Tryz.sizeOf9
  have u3 := Tryz.underlying3
  have a3 := Tryz.isAgg3
  have z3 := Tryz.sizeOf3
  have hS : Tryz.prog.underlying 25 = some (.struct (Tryz.prog.fieldsOf 25)) := by kernel_rfl
  have hp : Tryz.prog.stoodInHeld 25 = false := by kernel_rfl
  rw [run_eql_struct, show (10000 : Nat) = 9999 + 1 from rfl, run_equalIn_agg W 9999 25 _ _ hS hp]
  simp only [Program.fieldsOf, Tryz.underlying25]
  go_simp
  unfold same9
  by_cases h1 : k = k'
  case neg => simp [h1]
  by_cases h2 : s = s'
  case neg => simp [h1, h2]
  by_cases h3 : q = q'
  case neg => simp [h1, h2, h3]
  by_cases h4 : a = a'
  case neg => simp [h1, h2, h3, h4, toListC]
  by_cases h5 : b = b'
  case neg => simp [h1, h2, h3, h4, h5, toListC]
  by_cases h6 : c = c'
  case neg => simp [h1, h2, h3, h4, h5, h6, toListC]
  by_cases h7 : d = d'
  case neg => simp [h1, h2, h3, h4, h5, h6, h7, toListC]
  by_cases h8 : l = l'
  case neg => simp [h1, h2, h3, h4, h5, h6, h7, h8]
  simp [h1, h2, h3, h4, h5, h6, h7, h8]

theorem neqC (k s q : Int) (a b c d : ByteArray) (l k' s' q' : Int) (a' b' c' d' : ByteArray) (l' : Int) (W : World) :
    Sem.run Tryz.prog (binOp .neq 25 (.agg #[.int .i64 k, .int .i64 s, .int .i64 q, .string a, .string b, .string c, .string d, .int .i64 l]) (.agg #[.int .i64 k', .int .i64 s', .int .i64 q', .string a', .string b', .string c', .string d', .int .i64 l'])) W
      = .ok (.bool (!same9 ⟨k, s, q, a, b, c, d, l⟩ ⟨k', s', q', a', b', c', d', l'⟩)) W := by
  have h := eqlC k s q a b c d l k' s' q' a' b' c' d' l' W
  rw [run_eql_struct] at h
  rw [run_neq_struct]
  generalize Sem.run Tryz.prog (Op.equalIn 10000 25 _ _) W = r at h ⊢
  cases r with
  | ok b w' =>
    simp only [Result.andThen, Result.ok.injEq, Value.bool.injEq] at h ⊢
    obtain ⟨h1, h2⟩ := h
    exact ⟨by rw [h1], h2⟩
  | _ => cases h

theorem grdC (op : BinOp) (o1 o2 : Operand) (x y : Array Value) (W : World) : Sem.run Tryz.prog (eqGuard op 25 o1 o2 (.agg x) (.agg y)) W = .ok () W :=
  run_eqGuard_agg W op 25 o1 o2 x y (by kernel_rfl)

/-- A command that lies in a block of its own. -/
def CmdAt (w : World) (b : Nat) (c : Cmd9) : Prop := w.heap[b]? = some (.cells c.arr 25 (0, 0))
theorem CmdAt.new (w : World) (c : Cmd9) : CmdAt (w.alloc (.cells c.arr 25)) w.heap.size c := heap_alloc_new w _
theorem CmdAt.below {w w' : World} {b : Nat} {c : Cmd9} (h : CmdAt w b c) (hb : Below w.heap.size w w') : CmdAt w' b c := (hb.block b (Array.getElem?_eq_some_iff.1 h).1).trans h
theorem CmdAt.lt {w : World} {b : Nat} {c : Cmd9} (h : CmdAt w b c) : b < w.heap.size := (Array.getElem?_eq_some_iff.1 h).1
theorem CmdAt.cells {w : World} {b : Nat} {c : Cmd9} (h : CmdAt w b c) :
    w.cell? ⟨b, 0, none⟩ = some (.int .i64 c.k) ∧ w.cell? ⟨b, 1, none⟩ = some (.int .i64 c.s) ∧ w.cell? ⟨b, 2, none⟩ = some (.int .i64 c.q) ∧ w.cell? ⟨b, 3, none⟩ = some (.string c.key) ∧
    w.cell? ⟨b, 4, none⟩ = some (.string c.old) ∧ w.cell? ⟨b, 5, none⟩ = some (.string c.val) ∧ w.cell? ⟨b, 6, none⟩ = some (.string c.unt) ∧ w.cell? ⟨b, 7, none⟩ = some (.int .i64 c.lim) := by
  unfold CmdAt at h
  refine ⟨?_, ?_, ?_, ?_, ?_, ?_, ?_, ?_⟩
  all_goals
    unfold World.cell?
    dsimp only
    rw [h]
    rfl

theorem not_empty9 {u : ByteArray} (hu : u ≠ ⟨#[]⟩) : u.toList.isEmpty = false := by
  cases h : u.toList.isEmpty with
  | false => rfl
  | true =>
    have h' : u.toList = [] := by simpa using h
    refine absurd (data_inj (b := ⟨#[]⟩) (h'.trans ?_)) hu
    rw [Lib.toList_data]

set_option maxRecDepth 100000 in
theorem isKey_any (s : ByteArray) (w : World) : Calls Tryz.prog 127 #[.string s] w fun e w' => e = .returned (.bool (isKey9 s)) ∧ w' = w := by
  by_cases h0 : s = ⟨#[]⟩
  · subst h0
    go_enter Tryz.func127, Tryz.ntmps127
    go_wp2
    go_ret
    exact ⟨rfl, rfl⟩
  · have h1 : s.toList.isEmpty = false := not_empty9 h0
    have h2 : 1 ≤ s.size := by
      rcases Nat.eq_zero_or_pos s.size with h | h
      · exact absurd (by obtain ⟨⟨l⟩⟩ := s; simp [ByteArray.size] at h; rw [h]) h0
      · exact h
    have HK : Hid (isKey9 s = decide ((s.size : Int) ≤ 64)) := by
      show _ = _
      unfold isKey9
      rw [decide_eq_decide]
      omega
    clear h0 h2
    go_enter Tryz.func127, Tryz.ntmps127
    go_wp2
    go_ret
    rw [HK.out]
    exact ⟨rfl, rfl⟩

set_option maxRecDepth 100000 in
theorem isValue_any (s : ByteArray) (w : World) : Calls Tryz.prog 128 #[.string s] w fun e w' => e = .returned (.bool (isVal9 s)) ∧ w' = w := by
  have HK : Hid (isVal9 s = decide ((s.size : Int) ≤ 256)) := by
    show _ = _
    unfold isVal9
    rw [decide_eq_decide]
    omega
  go_enter Tryz.func128, Tryz.ntmps128
  go_wp2
  go_ret
  rw [HK.out]
  exact ⟨rfl, rfl⟩

set_option maxRecDepth 100000 in
theorem isBound_any (s : ByteArray) (w : World) : Calls Tryz.prog 133 #[.string s] w fun e w' => e = .returned (.bool (isBnd9 s)) ∧ w' = w := by
  have HK : Hid (isBnd9 s = decide ((s.size : Int) ≤ 64)) := by
    show _ = _
    unfold isBnd9
    rw [decide_eq_decide]
    omega
  go_enter Tryz.func133, Tryz.ntmps133
  go_wp2
  go_ret
  rw [HK.out]
  exact ⟨rfl, rfl⟩

set_option maxRecDepth 100000 in
theorem isLimit_any (n : Int) (w : World) : Calls Tryz.prog 134 #[.int .i64 n] w fun e w' => e = .returned (.bool (isLim9 n)) ∧ w' = w := by
  by_cases h0 : 1 ≤ n
  · have HK : Hid (isLim9 n = decide (n ≤ 64)) := by
      show _ = _
      unfold isLim9
      rw [decide_eq_decide]
      omega
    go_enter Tryz.func134, Tryz.ntmps134
    go_wp2
    go_ret
    rw [HK.out]
    exact ⟨rfl, rfl⟩
  · have HK : Hid (isLim9 n = false) := by
      show _ = _
      unfold isLim9
      exact decide_eq_false (by omega)
    go_enter Tryz.func134, Tryz.ntmps134
    go_wp2
    go_ret
    rw [HK.out]
    exact ⟨rfl, rfl⟩
end Go.Proofs.YtnbaoimjcaeeaaaGreat
