/-
  Plain mathematics of stage 10: messages; what is cut leads nowhere; members that rise.
-/
import Derived.Test.YtnbaoimjcaeeaaaEnO
namespace Go.Proofs.Ytnbaoimjcaeeaaa
open Go.RowKit

/-- A message's entries, its snapshot, off a reader. -/
def mes10 (m k : Int) : St → List Ent10 × St := if k = 5 then bindR (cnt10 16) fun n => ents10 m n else retR []
def msn10 (m k : Int) : St → Snap10 × St := if k = 7 then snap10 m else retR noS10
def msg10 (m : Int) : St → Msg10 × St :=
  bindR int9 fun k => bindR int9 fun fr => bindR int9 fun to => bindR int9 fun t => bindR int9 fun i => bindR int9 fun lt => bindR int9 fun cm => bindR int9 fun ro =>
    bindR bool9 fun rej => bindR int9 fun hint => bindR (mes10 m k) fun es => bindR (msn10 m k) fun sn => retR ⟨k, fr, to, t, i, lt, cm, ro, rej, hint, es, sn⟩
theorem stays_mes (m k : Int) : Stays (mes10 m k) := Stays.ite ((stays_cnt 16).bind fun _ => stays_ents m _) (Stays.ret _)
theorem app_mes (m k : Int) : App (mes10 m k) := App.ite ((app_cnt 16).bind (fun _ => app_ents m _) fun _ => stays_ents m _) (App.ret _)
theorem stays_msn (m k : Int) : Stays (msn10 m k) := Stays.ite (stays_snap m) (Stays.ret _)
theorem app_msn (m k : Int) : App (msn10 m k) := App.ite (app_snap m) (App.ret _)
/-- What is both. -/
structure Both {α : Type} (f : St → α × St) : Prop where
  app : App f
  stays : Stays f
theorem Both.bind {α β : Type} {f : St → α × St} {g : α → St → β × St} (hf : Both f) (hg : ∀ a, Both (g a)) : Both (bindR f g) := ⟨hf.app.bind (fun a => (hg a).app) fun a => (hg a).stays, hf.stays.bind fun a => (hg a).stays⟩
theorem both_int : Both int9 := ⟨app_int, stays_int⟩
theorem both_msg (m : Int) : Both (msg10 m) := by
  unfold msg10
  exact both_int.bind fun _ => both_int.bind fun _ => both_int.bind fun _ => both_int.bind fun _ => both_int.bind fun _ => both_int.bind fun _ => both_int.bind fun _ => both_int.bind fun _ =>
    Both.bind ⟨app_bool, stays_bool⟩ fun _ => both_int.bind fun _ => Both.bind ⟨app_mes m _, stays_mes m _⟩ fun _ => Both.bind ⟨app_msn m _, stays_msn m _⟩ fun _ => ⟨App.ret _, Stays.ret _⟩

/-- Bytes that are read to their end, cut: they are not read to their end. -/
theorem cut10 {α : Type} {f : St → α × St} (ha : App f) {p q : List Int} (hq : q ≠ []) (hf : (f (p ++ q, false)).2.1 = []) : ((f (p, false)).2.1.isEmpty && !(f (p, false)).2.2) = false := by
  cases hw : (f (p, false)).2.2 with
  | true => simp
  | false =>
    cases he : (f (p, false)).2.1 with
    | cons a l => rfl
    | nil =>
      have := ha p q hw
      rw [this, he] at hf
      exact absurd hf hq

def ShortM10 (m : Int) (x : Msg10) : Prop :=
  inI x.k ∧ inI x.fr ∧ inI x.to ∧ inI x.t ∧ inI x.i ∧ inI x.lt ∧ inI x.cm ∧ inI x.ro ∧ inI x.hint ∧ (∀ e ∈ x.es, ShortE10 m e) ∧ ShortS10 m x.sn
/-- What GoodMsg asks of the lists and the snapshot, by the kind. -/
def KindM10 (x : Msg10) : Prop := (x.k = 5 → x.es.length ≤ 16 ∧ ∀ e ∈ x.es, goodE10 e = true) ∧ (x.k ≠ 5 → x.es = []) ∧ (x.k ≠ 7 → x.sn = noS10)
theorem msg10_back (m : Int) (x : Msg10) (r : List Int) (h : ShortM10 m x) (hk : KindM10 x) (hm : m < 18446744073709551616) : msg10 m (msgB x ++ r, false) = (x, (r, false)) := by
  obtain ⟨h1, h2, h3, h4, h5, h6, h7, h8, h9, h10, h11⟩ := h
  obtain ⟨k1, k2, k3⟩ := hk
  obtain ⟨k, fr, to, t, i, lt, cm, ro, rej, hint, es, sn⟩ := x
  dsimp only at *
  unfold msg10 msgB
  dsimp only
  simp only [List.append_assoc]
  rw [bindR_eq (int9_back _ _ h1), bindR_eq (int9_back _ _ h2), bindR_eq (int9_back _ _ h3), bindR_eq (int9_back _ _ h4), bindR_eq (int9_back _ _ h5), bindR_eq (int9_back _ _ h6), bindR_eq (int9_back _ _ h7), bindR_eq (int9_back _ _ h8)]
  rw [List.singleton_append, bindR_eq (bool9_back _ _), bindR_eq (int9_back _ _ h9)]
  unfold mes10 msn10
  by_cases c5 : k = 5
  · subst c5
    have g := k1 rfl
    obtain rfl := k3 (by omega)
    rw [if_pos rfl, if_pos rfl, if_neg (by omega), if_neg (by omega), List.nil_append, List.append_assoc]
    have hb : bindR (cnt10 16) (fun n => ents10 m n) (numB (es.length : Int) ++ (entsB es ++ r), false) = (es, (r, false)) := by
      rw [bindR_eq (cnt10_back 16 es.length _ (by omega) (by omega)), ents10_back m es r hm (fun e he => ⟨h10 e he, g.2 e he⟩) es.length (Nat.le_refl _), List.take_length, List.drop_length]
      simp [entsB]
    rw [bindR_eq hb]
    rfl
  · obtain rfl := k2 c5
    rw [if_neg c5, if_neg c5, List.nil_append]
    by_cases c7 : k = 7
    · subst c7
      rw [if_pos rfl, if_pos rfl]
      have hb : bindR (retR ([] : List Ent10)) (fun es => bindR (snap10 m) fun sn => retR (Msg10.mk 7 fr to t i lt cm ro rej hint es sn)) (snapB sn ++ r, false) = (⟨7, fr, to, t, i, lt, cm, ro, rej, hint, [], sn⟩, (r, false)) := by
        rw [bindR_eq (f := retR ([] : List Ent10)) (a := []) (s' := (snapB sn ++ r, false)) rfl, bindR_eq (snap10_back m sn r h11 hm)]
        rfl
      exact hb
    · obtain rfl := k3 c7
      rw [if_neg c7, if_neg c7, List.nil_append]
      rfl

/-- Is a message good? -/
def goodM10 (x : Msg10) : Bool :=
  decide (1 ≤ x.k) && decide (x.k ≤ 10) && decide (1 ≤ x.fr) && decide (x.fr ≤ 9) && decide (1 ≤ x.to) && decide (x.to ≤ 9) && decide (1 ≤ x.t) && decide (0 ≤ x.i) && decide (0 ≤ x.lt) && decide (0 ≤ x.cm) && decide (0 ≤ x.ro) && decide (0 ≤ x.hint) &&
    decide (x.es.length ≤ 16) && (x.es.isEmpty || decide (x.k = 5)) &&
    ((List.range x.es.length).all fun j => goodE10 (x.es.getD j noE10) && decide ((x.es.getD j noE10).i - x.i = (j : Int) + 1) && decide ((x.es.getD j noE10).t ≤ x.t)) &&
    (if x.k = 7 then goodS10 x.sn else sameS10 x.sn noS10)
theorem sameF10_iff (a b : Conf10) : sameF10 a b = true ↔ a = b := by
  obtain ⟨v, l⟩ := a
  obtain ⟨v', l'⟩ := b
  simp [sameF10]
theorem sameS10_iff (a b : Snap10) : sameS10 a b = true ↔ a = b := by
  obtain ⟨i, t, f, d⟩ := a
  obtain ⟨i', t', f', d'⟩ := b
  simp [sameS10, sameF10_iff, and_assoc]
theorem sameE10_iff (a b : Ent10) : sameE10 a b = true ↔ a = b := by
  obtain ⟨i, t, k, c, f⟩ := a
  obtain ⟨i', t', k', c', f'⟩ := b
  simp [sameE10, sameF10_iff, same9_iff, and_assoc]
theorem goodM10_kind {x : Msg10} (h : goodM10 x = true) : KindM10 x := by
  unfold goodM10 at h
  simp only [Bool.and_eq_true, decide_eq_true_eq, Bool.or_eq_true, List.all_eq_true, List.mem_range] at h
  obtain ⟨⟨⟨⟨_, h13⟩, h14⟩, h15⟩, h16⟩ := h
  refine ⟨fun hk => ⟨h13, fun e he => ?_⟩, fun hk => ?_, fun hk => ?_⟩
  · obtain ⟨j, hj, rfl⟩ := List.getElem_of_mem he
    have := (h15 j hj).1.1
    rwa [List.getD_eq_getElem?_getD, List.getElem?_eq_getElem hj] at this
  · rcases h14 with h14 | h14
    · exact List.isEmpty_iff.1 h14
    · exact absurd h14 hk
  · rw [if_neg hk] at h16
    exact (sameS10_iff _ _).1 h16

/-- The places of a list that rises. -/
theorem rises10_at {l : List Int} (h : rises10 l = true) {i : Nat} (hi : i < l.length) : (1 ≤ l.getD i 0 ∧ l.getD i 0 ≤ 9) ∧ (i = 0 ∨ l.getD (i - 1) 0 < l.getD i 0) := by
  unfold rises10 at h
  simp only [List.all_eq_true, List.mem_range, Bool.and_eq_true, Bool.or_eq_true, decide_eq_true_eq] at h
  exact h i hi
theorem rises10_len {l : List Int} (h : rises10 l = true) : l.length ≤ 9 := by
  have key : ∀ i, i < l.length → (i : Int) + 1 ≤ l.getD i 0 := by
    intro i
    induction i with
    | zero => intro hi; have := (rises10_at h hi).1.1; omega
    | succ i ih =>
      intro hi
      have h1 := ih (by omega)
      have h2 := (rises10_at h hi).2
      rw [Nat.add_sub_cancel] at h2
      omega
  rcases Nat.eq_zero_or_pos l.length with h0 | h0
  · omega
  · have h1 := key (l.length - 1) (by omega)
    have h2 := (rises10_at h (i := l.length - 1) (by omega)).1.2
    omega
theorem goodF10_parts {c : Conf10} (h : goodF10 c = true) : rises10 c.vs = true ∧ rises10 c.ls = true ∧ c.vs ≠ [] ∧ ∀ a ∈ c.vs, ∀ b ∈ c.ls, a ≠ b := by
  unfold goodF10 at h
  simp only [Bool.and_eq_true, Bool.not_eq_true', List.all_eq_true, decide_eq_false_iff_not] at h
  obtain ⟨⟨⟨h1, h2⟩, h3⟩, h4⟩ := h
  exact ⟨h1, h2, (fun e => by rw [e] at h3; cases h3), h4⟩
end Go.Proofs.Ytnbaoimjcaeeaaa
