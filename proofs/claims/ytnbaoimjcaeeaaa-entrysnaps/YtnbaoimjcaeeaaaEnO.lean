/-
  Plain mathematics of stage 10: readers one behind the other; a message leads back, and cut it leads nowhere.
-/
import Derived.Test.YtnbaoimjcaeeaaaEnN
namespace Go.Proofs.Ytnbaoimjcaeeaaa
open Go.RowKit

/-- More bytes behind what is read change nothing of it; what was wrong stays wrong. -/
def App {α : Type} (f : St → α × St) : Prop := ∀ xs q, (f (xs, false)).2.2 = false → f (xs ++ q, false) = ((f (xs, false)).1, ((f (xs, false)).2.1 ++ q, false))
def Stays {α : Type} (f : St → α × St) : Prop := ∀ s, s.2 = true → (f s).2.2 = true

theorem Stays.bind {α β : Type} {f : St → α × St} {g : α → St → β × St} (hf : Stays f) (hg : ∀ a, Stays (g a)) : Stays (bindR f g) := fun s h => hg _ _ (hf s h)
theorem App.bind {α β : Type} {f : St → α × St} {g : α → St → β × St} (hf : App f) (hg : ∀ a, App (g a)) (hs : ∀ a, Stays (g a)) : App (bindR f g) := by
  intro xs q h
  unfold bindR at *
  have h1 : (f (xs, false)).2.2 = false := by
    cases hw : (f (xs, false)).2.2 with
    | false => rfl
    | true =>
      have := hs (f (xs, false)).1 _ hw
      rw [h] at this
      cases this
  have e1 := hf xs q h1
  have e2 : (f (xs, false)).2 = ((f (xs, false)).2.1, false) := Prod.ext rfl h1
  rw [e2] at h
  have e3 := hg (f (xs, false)).1 (f (xs, false)).2.1 q h
  rw [e1]
  dsimp only
  rw [e3, ← e2]
theorem App.ret {α : Type} (a : α) : App (retR a) := fun _ _ _ => rfl
theorem Stays.ret {α : Type} (a : α) : Stays (retR a) := fun _ h => h
theorem App.hold (b : Bool) : App (holdR b) := by
  intro xs q h
  unfold holdR at *
  cases b with
  | true => rfl
  | false => cases h
theorem Stays.hold (b : Bool) : Stays (holdR b) := by
  intro s h
  unfold holdR
  cases b with
  | true => exact h
  | false => rfl
theorem App.ite {α : Type} {p : Prop} [Decidable p] {f g : St → α × St} (hf : App f) (hg : App g) : App (if p then f else g) := by
  split
  · exact hf
  · exact hg
theorem Stays.ite {α : Type} {p : Prop} [Decidable p] {f g : St → α × St} (hf : Stays f) (hg : Stays g) : Stays (if p then f else g) := by
  split
  · exact hf
  · exact hg
theorem lose_stays (xs : List Int) (n : Nat) : (loseS xs true n).2 = true := loseS_wrong xs n
theorem stays_int : Stays int9 := fun s h => by unfold int9; dsimp only; rw [h]; exact loseS_wrong _ _
theorem stays_bool : Stays bool9 := fun s h => by unfold bool9; dsimp only; rw [h]; exact loseS_wrong _ _
theorem stays_byt : Stays byt10 := fun s h => by unfold byt10; dsimp only; rw [h]; exact loseS_wrong _ _
theorem stays_cnt (m : Int) : Stays (cnt10 m) := fun s h => by unfold cnt10; dsimp only; rw [h]; exact loseS_wrong _ _
theorem app_int : App int9 := int9_app
theorem app_bool : App bool9 := bool9_app
theorem app_byt : App byt10 := byt10_app
theorem app_cnt (m : Int) : App (cnt10 m) := by
  intro xs q h
  unfold cnt10 at *
  dsimp only at *
  have hn := lose_ne h
  have hc : ¬ (m < 0 ∨ m < (getS xs).1) := fun hc => hn (by unfold countS; rw [if_pos hc])
  have e0 : countS m xs = getS xs := by unfold countS; rw [if_neg hc]
  rw [e0] at hn h
  have hg : countS m (xs ++ q) = countS m xs := by
    unfold countS
    rw [getS_app xs q hn]
  rw [hg, e0, lose_app xs q false _ (getS_bd xs).2.2.1 h]

theorem ints10_bind (n : Nat) : ints10 (n + 1) = bindR (ints10 n) fun l => bindR int9 fun a => retR (l ++ [a]) := by
  funext s
  rw [ints10]
  unfold bindR retR
  rfl
theorem stays_ints : ∀ n, Stays (ints10 n)
  | 0 => fun _ h => h
  | n + 1 => by rw [ints10_bind]; exact (stays_ints n).bind fun _ => stays_int.bind fun _ => Stays.ret _
theorem app_ints : ∀ n, App (ints10 n)
  | 0 => fun _ _ _ => rfl
  | n + 1 => by rw [ints10_bind]; exact (app_ints n).bind (fun _ => app_int.bind (fun _ => App.ret _) fun _ => Stays.ret _) fun _ => stays_int.bind fun _ => Stays.ret _
theorem list10_bind (m : Int) : list10 m = bindR (cnt10 m) fun n => ints10 n := by
  funext s
  unfold list10 bindR
  rfl
theorem stays_list (m : Int) : Stays (list10 m) := by rw [list10_bind]; exact (stays_cnt m).bind stays_ints
theorem app_list (m : Int) : App (list10 m) := by rw [list10_bind]; exact (app_cnt m).bind app_ints stays_ints
theorem conf10_bind (m : Int) : conf10 m = bindR (list10 m) fun v => bindR (list10 m) fun l => retR ⟨v, l⟩ := by
  funext s
  unfold conf10 bindR retR
  rfl
theorem stays_conf (m : Int) : Stays (conf10 m) := by rw [conf10_bind]; exact (stays_list m).bind fun _ => (stays_list m).bind fun _ => Stays.ret _
theorem app_conf (m : Int) : App (conf10 m) := by
  rw [conf10_bind]
  exact (app_list m).bind (fun _ => (app_list m).bind (fun _ => App.ret _) fun _ => Stays.ret _) fun _ => (stays_list m).bind fun _ => Stays.ret _
theorem stays_tail (m i t k : Int) : Stays (tail10 m i t k) := by
  unfold tail10
  exact Stays.ite (stays_byt.bind fun _ => (Stays.hold _).bind fun _ => Stays.ret _) (Stays.ite ((stays_conf m).bind fun _ => Stays.ret _) (Stays.ret _))
theorem app_tail (m i t k : Int) : App (tail10 m i t k) := by
  unfold tail10
  exact App.ite (app_byt.bind (fun _ => (App.hold _).bind (fun _ => App.ret _) fun _ => Stays.ret _) fun _ => (Stays.hold _).bind fun _ => Stays.ret _) (App.ite ((app_conf m).bind (fun _ => App.ret _) fun _ => Stays.ret _) (App.ret _))
theorem stays_ent (m : Int) : Stays (ent10 m) := by
  unfold ent10
  exact stays_int.bind fun _ => stays_int.bind fun _ => stays_int.bind fun _ => stays_tail m _ _ _
theorem app_ent (m : Int) : App (ent10 m) := by
  unfold ent10
  exact app_int.bind (fun _ => app_int.bind (fun _ => app_int.bind (fun _ => app_tail m _ _ _) fun _ => stays_tail m _ _ _) fun _ => stays_int.bind fun _ => stays_tail m _ _ _) fun _ => stays_int.bind fun _ => stays_int.bind fun _ => stays_tail m _ _ _
theorem snap10_bind (m : Int) : snap10 m = bindR int9 fun i => bindR int9 fun t => bindR (conf10 m) fun f => bindR byt10 fun d => retR ⟨i, t, f, d⟩ := by
  funext s
  unfold snap10 bindR retR
  rfl
theorem stays_snap (m : Int) : Stays (snap10 m) := by
  rw [snap10_bind]
  exact stays_int.bind fun _ => stays_int.bind fun _ => (stays_conf m).bind fun _ => stays_byt.bind fun _ => Stays.ret _
theorem app_snap (m : Int) : App (snap10 m) := by
  rw [snap10_bind]
  exact app_int.bind (fun _ => app_int.bind (fun _ => (app_conf m).bind (fun _ => app_byt.bind (fun _ => App.ret _) fun _ => Stays.ret _) fun _ => stays_byt.bind fun _ => Stays.ret _) fun _ => (stays_conf m).bind fun _ => stays_byt.bind fun _ => Stays.ret _) fun _ => stays_int.bind fun _ => (stays_conf m).bind fun _ => stays_byt.bind fun _ => Stays.ret _

/-- So many entries. -/
def ents10 (m : Int) : Nat → St → List Ent10 × St
  | 0, s => ([], s)
  | n + 1, s => ((ents10 m n s).1 ++ [(ent10 m (ents10 m n s).2).1], (ent10 m (ents10 m n s).2).2)
theorem ents10_bind (m : Int) (n : Nat) : ents10 m (n + 1) = bindR (ents10 m n) fun l => bindR (ent10 m) fun a => retR (l ++ [a]) := by
  funext s
  rw [ents10]
  unfold bindR retR
  rfl
theorem stays_ents (m : Int) : ∀ n, Stays (ents10 m n)
  | 0 => fun _ h => h
  | n + 1 => by rw [ents10_bind]; exact (stays_ents m n).bind fun _ => (stays_ent m).bind fun _ => Stays.ret _
theorem app_ents (m : Int) : ∀ n, App (ents10 m n)
  | 0 => fun _ _ _ => rfl
  | n + 1 => by rw [ents10_bind]; exact (app_ents m n).bind (fun _ => (app_ent m).bind (fun _ => App.ret _) fun _ => Stays.ret _) fun _ => (stays_ent m).bind fun _ => Stays.ret _
theorem entsB_cons (e : Ent10) (l : List Ent10) : entsB (e :: l) = entB e ++ entsB l := by simp [entsB]
theorem ents10_back (m : Int) (l : List Ent10) (r : List Int) (hm : m < 18446744073709551616) (h : ∀ e ∈ l, ShortE10 m e ∧ goodE10 e = true) : ∀ n, n ≤ l.length → ents10 m n (entsB l ++ r, false) = (l.take n, (entsB (l.drop n) ++ r, false))
  | 0, _ => by simp [ents10]
  | n + 1, hn => by
    have ih := ents10_back m l r hm h n (by omega)
    have e : l.drop n = l[n] :: l.drop (n + 1) := List.drop_eq_getElem_cons (by omega)
    have hl := h _ (List.getElem_mem (l := l) (n := n) (by omega))
    rw [ents10, ih]
    simp only
    rw [e, entsB_cons, List.append_assoc, ent10_back m _ _ hl.1 hm hl.2, List.take_succ_eq_append_getElem (by omega)]
end Go.Proofs.Ytnbaoimjcaeeaaa
