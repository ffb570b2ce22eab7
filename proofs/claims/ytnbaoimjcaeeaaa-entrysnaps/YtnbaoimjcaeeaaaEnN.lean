/-
  Plain mathematics of stage 10: what is good leads back; more bytes behind what is read change nothing of it.
-/
import Derived.Test.YtnbaoimjcaeeaaaEnM
namespace Go.Proofs.Ytnbaoimjcaeeaaa
open Go.RowKit

theorem same9_iff (a b : Cmd9) : same9 a b = true ↔ a = b := by
  obtain ⟨k, s, q, key, old, val, unt, lim⟩ := a
  obtain ⟨k', s', q', key', old', val', unt', lim'⟩ := b
  simp [same9, and_assoc]
theorem emptyF10_iff (c : Conf10) : emptyF10 c = true ↔ c = noF10 := by
  obtain ⟨vs, ls⟩ := c
  simp [emptyF10, noF10, List.isEmpty_iff]

/-- What an entry that comes in keeps to, and lists of at most m. -/
def ShortE10 (m : Int) (e : Ent10) : Prop := inI e.i ∧ inI e.t ∧ inI e.k ∧ Short9 e.c ∧ inL e.f.vs ∧ inL e.f.ls ∧ (e.f.vs.length : Int) ≤ m ∧ (e.f.ls.length : Int) ≤ m ∧ (cmdB e.c).length < 18446744073709551616
theorem ent10_back (m : Int) (e : Ent10) (r : List Int) (h : ShortE10 m e) (hm : m < 18446744073709551616) (hg : goodE10 e = true) : ent10 m (entB e ++ r, false) = (e, (r, false)) := by
  obtain ⟨h1, h2, h3, h4, h5, h6, h7, h8, h9⟩ := h
  obtain ⟨i, t, k, c, f⟩ := e
  unfold goodE10 at hg
  simp only [Bool.and_eq_true, decide_eq_true_eq] at hg
  obtain ⟨-, hg⟩ := hg
  dsimp only at *
  unfold ent10 entB
  simp only [List.append_assoc]
  rw [bindR_eq (int9_back _ _ h1), bindR_eq (int9_back _ _ h2), bindR_eq (int9_back _ _ h3)]
  unfold tail10
  by_cases k1 : k = 1
  · subst k1
    rw [if_pos rfl, Bool.and_eq_true, emptyF10_iff, same9_iff] at hg
    obtain ⟨rfl, rfl⟩ := hg
    rw [if_neg (by omega), if_neg (by omega), if_neg (by omega), if_neg (by omega)]
    rfl
  by_cases k2 : k = 2
  · subst k2
    rw [if_neg (by omega), if_pos rfl, Bool.and_eq_true, emptyF10_iff] at hg
    obtain ⟨rfl, hc⟩ := hg
    rw [if_pos rfl, if_pos rfl, if_neg (by omega), List.nil_append, bindR_eq (byt10_back _ _ h9)]
    have hr := readC9_back c h4
    rw [hc] at hr
    rw [hr]
    rfl
  by_cases k3 : k = 3
  · subst k3
    rw [if_neg (by omega), if_neg (by omega), if_pos rfl, Bool.and_eq_true, same9_iff] at hg
    obtain ⟨_, rfl⟩ := hg
    rw [if_neg (by omega), if_pos rfl, if_neg (by omega), if_pos rfl, List.nil_append, bindR_eq (conf10_back m f r h5 h6 h7 h8 hm)]
    rfl
  · rw [if_neg k1, if_neg k2, if_neg k3] at hg
    cases hg

/-- A snapshot off a reader. -/
def snap10 (m : Int) (s : List Int × Bool) : Snap10 × (List Int × Bool) :=
  let a0 := int9 s
  let a1 := int9 a0.2
  let a2 := conf10 m a1.2
  let a3 := byt10 a2.2
  (⟨a0.1, a1.1, a2.1, a3.1⟩, a3.2)
def ShortS10 (m : Int) (s : Snap10) : Prop := inI s.i ∧ inI s.t ∧ inL s.f.vs ∧ inL s.f.ls ∧ (s.f.vs.length : Int) ≤ m ∧ (s.f.ls.length : Int) ≤ m ∧ s.d.length < 18446744073709551616
theorem snap10_back (m : Int) (s : Snap10) (r : List Int) (h : ShortS10 m s) (hm : m < 18446744073709551616) : snap10 m (snapB s ++ r, false) = (s, (r, false)) := by
  obtain ⟨h1, h2, h3, h4, h5, h6, h7⟩ := h
  unfold snap10 snapB
  simp only [List.append_assoc]
  rw [int9_back _ _ h1]
  simp only
  rw [int9_back _ _ h2]
  simp only
  rw [conf10_back m s.f _ h3 h4 h5 h6 hm]
  simp only
  rw [byt10_back _ _ h7]
/-- What must not be forgotten, off a reader. -/
def hard10 (s : List Int × Bool) : Hard10 × (List Int × Bool) :=
  let a0 := int9 s
  let a1 := int9 a0.2
  let a2 := int9 a1.2
  (⟨a0.1, a1.1, a2.1⟩, a2.2)
theorem hard10_back (h : Hard10) (r : List Int) (h1 : inI h.t) (h2 : inI h.v) (h3 : inI h.c) : hard10 (hardB h ++ r, false) = (h, (r, false)) := by
  unfold hard10 hardB
  simp only [List.append_assoc]
  rw [int9_back _ _ h1]
  simp only
  rw [int9_back _ _ h2]
  simp only
  rw [int9_back _ _ h3]

/-- More bytes behind a number change nothing of it. -/
theorem gacc_app (xs q : List Int) (k j : Nat) (h : j < xs.length) : gacc (xs ++ q) k j = gacc xs k j := by
  have h0 : 0 < xs.length := by omega
  unfold gacc
  have e1 : (xs ++ q).getD 0 0 = xs.getD 0 0 := by
    rw [List.getD_eq_getElem?_getD, List.getD_eq_getElem?_getD, List.getElem?_append_left h0]
  have e2 : ((xs ++ q).drop 1).take j = (xs.drop 1).take j := by
    rw [List.drop_append_of_le_length (by omega), List.take_append_of_le_length (by rw [List.length_drop]; omega)]
  rw [e1, e2]
theorem getS_app (xs q : List Int) (h : (getS xs).2 ≠ 0) : getS (xs ++ q) = getS xs := by
  have h0 : ¬ xs.length ≤ lead (xs.getD 0 0) := fun hle => h (by unfold getS; rw [if_pos hle])
  have h1 : 0 < xs.length := by omega
  have e1 : (xs ++ q).getD 0 0 = xs.getD 0 0 := by
    rw [List.getD_eq_getElem?_getD, List.getD_eq_getElem?_getD, List.getElem?_append_left h1]
  unfold getS
  rw [e1, gacc_app xs q _ _ (by omega), if_neg h0, if_neg (by rw [List.length_append]; omega)]
theorem lose_app (xs q : List Int) (w : Bool) (n : Nat) (hn : n ≤ xs.length) (h : (loseS xs w n).2 = false) : loseS (xs ++ q) w n = ((loseS xs w n).1 ++ q, false) := by
  unfold loseS at *
  split at h
  · cases h
  · rename_i h0
    rw [if_neg h0, if_neg h0]
    simp only at h
    rw [List.drop_append_of_le_length hn, h]
theorem lose_ne {xs : List Int} {w : Bool} {n : Nat} (h : (loseS xs w n).2 = false) : n ≠ 0 := by
  intro e
  unfold loseS at h
  rw [if_pos e] at h
  cases h
theorem int9_app (xs q : List Int) (h : (int9 (xs, false)).2.2 = false) : int9 (xs ++ q, false) = ((int9 (xs, false)).1, ((int9 (xs, false)).2.1 ++ q, false)) := by
  unfold int9 at *
  dsimp only at *
  rw [getS_app xs q (lose_ne h), lose_app xs q false _ (getS_bd xs).2.2.1 h]
theorem byt10_app (xs q : List Int) (h : (byt10 (xs, false)).2.2 = false) : byt10 (xs ++ q, false) = ((byt10 (xs, false)).1, ((byt10 (xs, false)).2.1 ++ q, false)) := by
  unfold byt10 at *
  dsimp only at *
  have hn := lose_ne h
  have hg0 : ¬ ((getS xs).2 = 0 ∨ (xs.length : Int) - (getS xs).2 < (getS xs).1) := fun hc => hn (by unfold getTextS; rw [if_pos hc])
  have hb := getS_bd xs
  have hg : getTextS (xs ++ q) = getTextS xs := by
    unfold getTextS
    rw [getS_app xs q (fun e => hg0 (.inl e)), if_neg hg0, if_neg (by rw [List.length_append]; omega)]
    rw [List.drop_append_of_le_length (by omega), List.take_append_of_le_length (by rw [List.length_drop]; omega)]
  rw [hg, lose_app xs q false _ (getTextS_bd xs).1 h]
theorem bool9_app (xs q : List Int) (h : (bool9 (xs, false)).2.2 = false) : bool9 (xs ++ q, false) = ((bool9 (xs, false)).1, ((bool9 (xs, false)).2.1 ++ q, false)) := by
  unfold bool9 at *
  dsimp only at *
  have hn := lose_ne h
  have h0 : ¬ (xs.length = 0 ∨ (xs.getD 0 0 ≠ 84 ∧ xs.getD 0 0 ≠ 70)) := fun hc => hn (by unfold getBoolS; rw [if_pos hc])
  have h1 : 0 < xs.length := by omega
  have e1 : (xs ++ q).getD 0 0 = xs.getD 0 0 := by
    rw [List.getD_eq_getElem?_getD, List.getD_eq_getElem?_getD, List.getElem?_append_left h1]
  have hg : getBoolS (xs ++ q) = getBoolS xs := by
    unfold getBoolS
    rw [e1, if_neg h0, if_neg (by rw [List.length_append]; omega)]
  rw [hg, lose_app xs q false _ (getBoolS_bd xs) h]
end Go.Proofs.Ytnbaoimjcaeeaaa
