import Derived.Test.YtnbaoimjcaeeaaaGreatEnMTo
/-
  Plain mathematics of stage 10: what is good leads back; more bytes behind what is read change nothing of it.
-/
namespace Go.Proofs.YtnbaoimjcaeeaaaGreat
open Go.RowKit

theorem same9_iff (a b : Cmd9) : same9 a b = true ↔ a = b := by
  obtain ⟨k, s, q, key, old, val, unt, lim⟩ := a
  obtain ⟨k', s', q', key', old', val', unt', lim'⟩ := b
  simp [same9, and_assoc]
theorem emptyF10_iff (c : Conf10) : emptyF10 c = true ↔ c = noF10 := by
  obtain ⟨vs, ls⟩ := c
  simp [emptyF10, noF10, List.isEmpty_iff]

/-- What an entry that comes in keeps to, and lists of at most m. -/
def ShortE10 (m : Int) (e : Ent10) : Prop := inI e.i ∧ inI e.t ∧ inI e.k ∧ Short9 e.c ∧ inL e.f.vs ∧ inL e.f.ls ∧ (e.f.vs.length : Int) ≤ m ∧ (e.f.ls.length : Int) ≤ m ∧ (cmdB e.c).length < 18446744073709551616
theorem ent10_back (m : Int) (e : Ent10) (r : List Int) (h : ShortE10 m e) (hm : m < 18446744073709551616) (hg : goodE10 e = true) : ent10 m (entB e ++ r, false) = (e, (r, false)) := by
  obtain ⟨h1, h2, h3, h4, h5, h6, h7, h8, h9⟩ := h
  obtain ⟨i, t, k, c, f⟩ := e
  unfold goodE10 at hg
  simp only [Bool.and_eq_true, decide_eq_true_eq] at hg
  obtain ⟨-, hg⟩ := hg
  dsimp only at *
  unfold ent10 entB
  simp only [List.append_assoc]
  rw [bindR_eq (int9_back _ _ h1), bindR_eq (int9_back _ _ h2), bindR_eq (int9_back _ _ h3)]
  unfold tail10
  by_cases k1 : k = 1
  · subst k1
    rw [if_pos rfl, Bool.and_eq_true, emptyF10_iff, same9_iff] at hg
    obtain ⟨rfl, rfl⟩ := hg
    rw [if_neg (by omega), if_neg (by omega), if_neg (by omega), if_neg (by omega)]
    rfl
  by_cases k2 : k = 2
  · subst k2
    rw [if_neg (by omega), if_pos rfl, Bool.and_eq_true, emptyF10_iff] at hg
    obtain ⟨rfl, hc⟩ := hg
    rw [if_pos rfl, if_pos rfl, if_neg (by omega), List.nil_append, bindR_eq (byt10_back _ _ h9)]
    have hr := readC9_back c h4
    rw [hc] at hr
    rw [hr]
    rfl
  by_cases k3 : k = 3
  · subst k3
    rw [if_neg (by omega), if_neg (by omega), if_pos rfl, Bool.and_eq_true, same9_iff] at hg
    obtain ⟨_, rfl⟩ := hg
    rw [if_neg (by omega), if_pos rfl, if_neg (by omega), if_pos rfl, List.nil_append, bindR_eq (conf10_back m f r h5 h6 h7 h8 hm)]
    rfl
  · rw [if_neg k1, if_neg k2, if_neg k3] at hg
    cases hg

/-- A snapshot off a reader. -/
def snap10 (m : Int) (s : List Int × Bool) : Snap10 × (List Int × Bool) :=
  let a0 := int9 s
  let a1 := int9 a0.2
  let a2 := conf10 m a1.2
  let a3 := byt10 a2.2
  (⟨a0.1, a1.1, a2.1, a3.1⟩, a3.2)
def ShortS10 (m : Int) (s : Snap10) : Prop := inI s.i ∧ inI s.t ∧ inL s.f.vs ∧ inL s.f.ls ∧ (s.f.vs.length : Int) ≤ m ∧ (s.f.ls.length : Int) ≤ m ∧ s.d.length < 18446744073709551616
theorem snap10_back (m : Int) (s : Snap10) (r : List Int) (h : ShortS10 m s) (hm : m < 18446744073709551616) : snap10 m (snapB s ++ r, false) = (s, (r, false)) := by
  obtain ⟨h1, h2, h3, h4, h5, h6, h7⟩ := h
  unfold snap10 snapB
  simp only [List.append_assoc]
  rw [int9_back _ _ h1]
  simp only
  rw [int9_back _ _ h2]
  simp only
  rw [conf10_back m s.f _ h3 h4 h5 h6 hm]
  simp only
  rw [byt10_back _ _ h7]
/-- What must not be forgotten, off a reader. -/
def hard10 (s : List Int × Bool) : Hard10 × (List Int × Bool) :=
  let a0 := int9 s
  let a1 := int9 a0.2
  let a2 := int9 a1.2
  (⟨a0.1, a1.1, a2.1⟩, a2.2)
theorem hard10_back (h : Hard10) (r : List Int) (h1 : inI h.t) (h2 : inI h.v) (h3 : inI h.c) : hard10 (hardB h ++ r, false) = (h, (r, false)) := by
  unfold hard10 hardB
  simp only [List.append_assoc]
  rw [int9_back _ _ h1]
  simp only
  rw [int9_back _ _ h2]
  simp only
  rw [int9_back _ _ h3]

/-- More bytes behind a number change nothing of it. -/
theorem gacc_app (xs q : List Int) (k j : Nat) (h : j < xs.length) : gacc (xs ++ q) k j = gacc xs k j := by
  have h0 : 0 < xs.length := by omega
  unfold gacc
  have e1 : (xs ++ q).getD 0 0 = xs.getD 0 0 := by
    rw [List.getD_eq_getElem?_getD, List.getD_eq_getElem?_getD, List.getElem?_append_left h0]
  have e2 : ((xs ++ q).drop 1).take j = (xs.drop 1).take j := by
    rw [List.drop_append_of_le_length (by omega), List.take_append_of_le_length (by rw [List.length_drop]; omega)]
  rw [e1, e2]
theorem getS_app (xs q : List Int) (h : (getS xs).2 ≠ 0) : getS (xs ++ q) = getS xs := by
  have h0 : ¬ xs.length ≤ lead (xs.getD 0 0) := fun hle => h (by unfold getS; rw [if_pos hle])
  have h1 : 0 < xs.length := by omega
  have e1 : (xs ++ q).getD 0 0 = xs.getD 0 0 := by
    rw [List.getD_eq_getElem?_getD, List.getD_eq_getElem?_getD, List.getElem?_append_left h1]
  unfold getS
  rw [e1, gacc_app xs q _ _ (by omega), if_neg h0, if_neg (by rw [List.length_append]; omega)]
theorem lose_app (xs q : List Int) (w : Bool) (n : Nat) (hn : n ≤ xs.length) (h : (loseS xs w n).2 = false) : loseS (xs ++ q) w n = ((loseS xs w n).1 ++ q, false) := by
  unfold loseS at *
  split at h
  · cases h
  · rename_i h0
    rw [if_neg h0, if_neg h0]
    simp only at h
    rw [List.drop_append_of_le_length hn, h]
theorem lose_ne {xs : List Int} {w : Bool} {n : Nat} (h : (loseS xs w n).2 = false) : n ≠ 0 := by
  intro e
  unfold loseS at h
  rw [if_pos e] at h
  cases h
theorem int9_app (xs q : List Int) (h : (int9 (xs, false)).2.2 = false) : int9 (xs ++ q, false) = ((int9 (xs, false)).1, ((int9 (xs, false)).2.1 ++ q, false)) := by
  unfold int9 at *
  dsimp only at *
  rw [getS_app xs q (lose_ne h), lose_app xs q false _ (getS_bd xs).2.2.1 h]
theorem byt10_app (xs q : List Int) (h : (byt10 (xs, false)).2.2 = false) : byt10 (xs ++ q, false) = ((byt10 (xs, false)).1, ((byt10 (xs, false)).2.1 ++ q, false)) := by
  unfold byt10 at *
  dsimp only at *
  have hn := lose_ne h
  have hg0 : ¬ ((getS xs).2 = 0 ∨ (xs.length : Int) - (getS xs).2 < (getS xs).1) := fun hc => hn (by unfold getTextS; rw [if_pos hc])
  have hb := getS_bd xs
  have hg : getTextS (xs ++ q) = getTextS xs := by
    unfold getTextS
    rw [getS_app xs q (fun e => hg0 (.inl e)), if_neg hg0, if_neg (by rw [List.length_append]; omega)]
    rw [List.drop_append_of_le_length (by omega), List.take_append_of_le_length (by rw [List.length_drop]; omega)]
  rw [hg, lose_app xs q false _ (getTextS_bd xs).1 h]
theorem bool9_app (xs q : List Int) (h : (bool9 (xs, false)).2.2 = false) : bool9 (xs ++ q, false) = ((bool9 (xs, false)).1, ((bool9 (xs, false)).2.1 ++ q, false)) := by
  unfold bool9 at *
  dsimp only at *
  have hn := lose_ne h
  have h0 : ¬ (xs.length = 0 ∨ (xs.getD 0 0 ≠ 84 ∧ xs.getD 0 0 ≠ 70)) := fun hc => hn (by unfold getBoolS; rw [if_pos hc])
  have h1 : 0 < xs.length := by omega
  have e1 : (xs ++ q).getD 0 0 = xs.getD 0 0 := by
    rw [List.getD_eq_getElem?_getD, List.getD_eq_getElem?_getD, List.getElem?_append_left h1]
  have hg : getBoolS (xs ++ q) = getBoolS xs := by
    unfold getBoolS
    rw [e1, if_neg h0, if_neg (by rw [List.length_append]; omega)]
  rw [hg, lose_app xs q false _ (getBoolS_bd xs) h]
end Go.Proofs.YtnbaoimjcaeeaaaGreat

/-
  Plain mathematics of stage 10: readers one behind the other; a message leads back, and cut it leads nowhere.
-/
namespace Go.Proofs.YtnbaoimjcaeeaaaGreat
open Go.RowKit

/-- More bytes behind what is read change nothing of it; what was wrong stays wrong. -/
def App {α : Type} (f : St → α × St) : Prop := ∀ xs q, (f (xs, false)).2.2 = false → f (xs ++ q, false) = ((f (xs, false)).1, ((f (xs, false)).2.1 ++ q, false))
def Stays {α : Type} (f : St → α × St) : Prop := ∀ s, s.2 = true → (f s).2.2 = true

theorem Stays.bind {α β : Type} {f : St → α × St} {g : α → St → β × St} (hf : Stays f) (hg : ∀ a, Stays (g a)) : Stays (bindR f g) := fun s h => hg _ _ (hf s h)
theorem App.bind {α β : Type} {f : St → α × St} {g : α → St → β × St} (hf : App f) (hg : ∀ a, App (g a)) (hs : ∀ a, Stays (g a)) : App (bindR f g) := by
  intro xs q h
  unfold bindR at *
  have h1 : (f (xs, false)).2.2 = false := by
    cases hw : (f (xs, false)).2.2 with
    | false => rfl
    | true =>
      have := hs (f (xs, false)).1 _ hw
      rw [h] at this
      cases this
  have e1 := hf xs q h1
  have e2 : (f (xs, false)).2 = ((f (xs, false)).2.1, false) := Prod.ext rfl h1
  rw [e2] at h
  have e3 := hg (f (xs, false)).1 (f (xs, false)).2.1 q h
  rw [e1]
  dsimp only
  rw [e3, ← e2]
theorem App.ret {α : Type} (a : α) : App (retR a) := fun _ _ _ => rfl
theorem Stays.ret {α : Type} (a : α) : Stays (retR a) := fun _ h => h
theorem App.hold (b : Bool) : App (holdR b) := by
  intro xs q h
  unfold holdR at *
  cases b with
  | true => rfl
  | false => cases h
theorem Stays.hold (b : Bool) : Stays (holdR b) := by
  intro s h
  unfold holdR
  cases b with
  | true => exact h
  | false => rfl
theorem App.ite {α : Type} {p : Prop} [Decidable p] {f g : St → α × St} (hf : App f) (hg : App g) : App (if p then f else g) := by
  split
  · exact hf
  · exact hg
theorem Stays.ite {α : Type} {p : Prop} [Decidable p] {f g : St → α × St} (hf : Stays f) (hg : Stays g) : Stays (if p then f else g) := by
  split
  · exact hf
  · exact hg
theorem lose_stays (xs : List Int) (n : Nat) : (loseS xs true n).2 = true := loseS_wrong xs n
theorem stays_int : Stays int9 := fun s h => by unfold int9; dsimp only; rw [h]; exact loseS_wrong _ _
theorem stays_bool : Stays bool9 := fun s h => by unfold bool9; dsimp only; rw [h]; exact loseS_wrong _ _
theorem stays_byt : Stays byt10 := fun s h => by unfold byt10; dsimp only; rw [h]; exact loseS_wrong _ _
theorem stays_cnt (m : Int) : Stays (cnt10 m) := fun s h => by unfold cnt10; dsimp only; rw [h]; exact loseS_wrong _ _
theorem app_int : App int9 := int9_app
theorem app_bool : App bool9 := bool9_app
theorem app_byt : App byt10 := byt10_app
theorem app_cnt (m : Int) : App (cnt10 m) := by
  intro xs q h
  unfold cnt10 at *
  dsimp only at *
  have hn := lose_ne h
  have hc : ¬ (m < 0 ∨ m < (getS xs).1) := fun hc => hn (by unfold countS; rw [if_pos hc])
  have e0 : countS m xs = getS xs := by unfold countS; rw [if_neg hc]
  rw [e0] at hn h
  have hg : countS m (xs ++ q) = countS m xs := by
    unfold countS
    rw [getS_app xs q hn]
  rw [hg, e0, lose_app xs q false _ (getS_bd xs).2.2.1 h]

theorem ints10_bind (n : Nat) : ints10 (n + 1) = bindR (ints10 n) fun l => bindR int9 fun a => retR (l ++ [a]) := by
  funext s
  rw [ints10]
  unfold bindR retR
  rfl
theorem stays_ints : ∀ n, Stays (ints10 n)
  | 0 => fun _ h => h
  | n + 1 => by rw [ints10_bind]; exact (stays_ints n).bind fun _ => stays_int.bind fun _ => Stays.ret _
theorem app_ints : ∀ n, App (ints10 n)
  | 0 => fun _ _ _ => rfl
  | n + 1 => by rw [ints10_bind]; exact (app_ints n).bind (fun _ => app_int.bind (fun _ => App.ret _) fun _ => Stays.ret _) fun _ => stays_int.bind fun _ => Stays.ret _
theorem list10_bind (m : Int) : list10 m = bindR (cnt10 m) fun n => ints10 n := by
  funext s
  unfold list10 bindR
  rfl
theorem stays_list (m : Int) : Stays (list10 m) := by rw [list10_bind]; exact (stays_cnt m).bind stays_ints
theorem app_list (m : Int) : App (list10 m) := by rw [list10_bind]; exact (app_cnt m).bind app_ints stays_ints
theorem conf10_bind (m : Int) : conf10 m = bindR (list10 m) fun v => bindR (list10 m) fun l => retR ⟨v, l⟩ := by
  funext s
  unfold conf10 bindR retR
  rfl
theorem stays_conf (m : Int) : Stays (conf10 m) := by rw [conf10_bind]; exact (stays_list m).bind fun _ => (stays_list m).bind fun _ => Stays.ret _
theorem app_conf (m : Int) : App (conf10 m) := by
  rw [conf10_bind]
  exact (app_list m).bind (fun _ => (app_list m).bind (fun _ => App.ret _) fun _ => Stays.ret _) fun _ => (stays_list m).bind fun _ => Stays.ret _
theorem stays_tail (m i t k : Int) : Stays (tail10 m i t k) := by
  unfold tail10
  exact Stays.ite (stays_byt.bind fun _ => (Stays.hold _).bind fun _ => Stays.ret _) (Stays.ite ((stays_conf m).bind fun _ => Stays.ret _) (Stays.ret _))
theorem app_tail (m i t k : Int) : App (tail10 m i t k) := by
  unfold tail10
  exact App.ite (app_byt.bind (fun _ => (App.hold _).bind (fun _ => App.ret _) fun _ => Stays.ret _) fun _ => (Stays.hold _).bind fun _ => Stays.ret _) (App.ite ((app_conf m).bind (fun _ => App.ret _) fun _ => Stays.ret _) (App.ret _))
theorem stays_ent (m : Int) : Stays (ent10 m) := by
  unfold ent10
  exact stays_int.bind fun _ => stays_int.bind fun _ => stays_int.bind fun _ => stays_tail m _ _ _
theorem app_ent (m : Int) : App (ent10 m) := by
  unfold ent10
  exact app_int.bind (fun _ => app_int.bind (fun _ => app_int.bind (fun _ => app_tail m _ _ _) fun _ => stays_tail m _ _ _) fun _ => stays_int.bind fun _ => stays_tail m _ _ _) fun _ => stays_int.bind fun _ => stays_int.bind fun _ => stays_tail m _ _ _
theorem snap10_bind (m : Int) : snap10 m = bindR int9 fun i => bindR int9 fun t => bindR (conf10 m) fun f => bindR byt10 fun d => retR ⟨i, t, f, d⟩ := by
  funext s
  unfold snap10 bindR retR
  rfl
theorem stays_snap (m : Int) : Stays (snap10 m) := by
  rw [snap10_bind]
  exact stays_int.bind fun _ => stays_int.bind fun _ => (stays_conf m).bind fun _ => stays_byt.bind fun _ => Stays.ret _
theorem app_snap (m : Int) : App (snap10 m) := by
  rw [snap10_bind]
  exact app_int.bind (fun _ => app_int.bind (fun _ => (app_conf m).bind (fun _ => app_byt.bind (fun _ => App.ret _) fun _ => Stays.ret _) fun _ => stays_byt.bind fun _ => Stays.ret _) fun _ => (stays_conf m).bind fun _ => stays_byt.bind fun _ => Stays.ret _) fun _ => stays_int.bind fun _ => (stays_conf m).bind fun _ => stays_byt.bind fun _ => Stays.ret _

/-- So many entries. -/
def ents10 (m : Int) : Nat → St → List Ent10 × St
  | 0, s => ([], s)
  | n + 1, s => ((ents10 m n s).1 ++ [(ent10 m (ents10 m n s).2).1], (ent10 m (ents10 m n s).2).2)
theorem ents10_bind (m : Int) (n : Nat) : ents10 m (n + 1) = bindR (ents10 m n) fun l => bindR (ent10 m) fun a => retR (l ++ [a]) := by
  funext s
  rw [ents10]
  unfold bindR retR
  rfl
theorem stays_ents (m : Int) : ∀ n, Stays (ents10 m n)
  | 0 => fun _ h => h
  | n + 1 => by rw [ents10_bind]; exact (stays_ents m n).bind fun _ => (stays_ent m).bind fun _ => Stays.ret _
theorem app_ents (m : Int) : ∀ n, App (ents10 m n)
  | 0 => fun _ _ _ => rfl
  | n + 1 => by rw [ents10_bind]; exact (app_ents m n).bind (fun _ => (app_ent m).bind (fun _ => App.ret _) fun _ => Stays.ret _) fun _ => (stays_ent m).bind fun _ => Stays.ret _
theorem entsB_cons (e : Ent10) (l : List Ent10) : entsB (e :: l) = entB e ++ entsB l := by simp [entsB]
theorem ents10_back (m : Int) (l : List Ent10) (r : List Int) (hm : m < 18446744073709551616) (h : ∀ e ∈ l, ShortE10 m e ∧ goodE10 e = true) : ∀ n, n ≤ l.length → ents10 m n (entsB l ++ r, false) = (l.take n, (entsB (l.drop n) ++ r, false))
  | 0, _ => by simp [ents10]
  | n + 1, hn => by
    have ih := ents10_back m l r hm h n (by omega)
    have e : l.drop n = l[n] :: l.drop (n + 1) := List.drop_eq_getElem_cons (by omega)
    have hl := h _ (List.getElem_mem (l := l) (n := n) (by omega))
    rw [ents10, ih]
    simp only
    rw [e, entsB_cons, List.append_assoc, ent10_back m _ _ hl.1 hm hl.2, List.take_succ_eq_append_getElem (by omega)]
end Go.Proofs.YtnbaoimjcaeeaaaGreat
