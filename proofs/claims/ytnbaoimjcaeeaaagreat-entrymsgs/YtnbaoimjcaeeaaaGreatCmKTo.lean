import Derived.Test.YtnbaoimjcaeeaaaGreatRngTo
import Derived.Test.YtnbaoimjcaeeaaaGreatEn5To
import Derived.Test.YtnbaoimjcaeeaaaGreatHRowCTo
/-
  Plain mathematics of stage 10: two readers that tell the same of all that is good.
-/
namespace Go.Proofs.YtnbaoimjcaeeaaaGreat
open Go.RowKit

/-- What is read to its end, and good; else nothing, and an error. -/
def whole10 {α : Type} (good : α → Bool) (none : α) (r : α × St) : α × Int := if (r.2.1.isEmpty && !r.2.2) && good r.1 then (r.1, 0) else (none, 8)
def Bad10 {α : Type} (P : α → Bool) (r : α × St) : Prop := r.2.2 = true ∨ P r.1 = false
/-- Two readers: the same, or neither reads what is good. -/
def Sim10 {α : Type} (P : α → Bool) (f g : St → α × St) : Prop := ∀ s, f s = g s ∨ (Bad10 P (f s) ∧ Bad10 P (g s))
theorem Bad10.whole {α : Type} {P : α → Bool} {r : α × St} (h : Bad10 P r) (n : α) : whole10 P n r = (n, 8) := by
  unfold whole10
  rcases h with h | h
  · rw [h]; simp
  · rw [h]; simp
theorem Sim10.whole {α : Type} {P : α → Bool} {f g : St → α × St} (h : Sim10 P f g) (n : α) (s : St) : whole10 P n (f s) = whole10 P n (g s) := by
  rcases h s with h | ⟨h1, h2⟩
  · rw [h]
  · rw [h1.whole, h2.whole]
theorem Sim10.rfl' {α : Type} {P : α → Bool} {f : St → α × St} : Sim10 P f f := fun _ => .inl rfl
theorem Sim10.bind {α β : Type} {P : α → Bool} {Q : β → Bool} {f g : St → α × St} {k h : α → St → β × St} (hf : Sim10 P f g) (hk : ∀ a, Sim10 Q (k a) (h a))
    (b1 : ∀ a, P a = false → ∀ s, Bad10 Q (k a s)) (b2 : ∀ a, P a = false → ∀ s, Bad10 Q (h a s)) (s1 : ∀ a, Stays (k a)) (s2 : ∀ a, Stays (h a)) : Sim10 Q (bindR f k) (bindR g h) := by
  intro s
  unfold bindR
  rcases hf s with e | ⟨h1, h2⟩
  · rw [e]
    exact hk _ _
  · right
    constructor
    · rcases h1 with h1 | h1
      · exact .inl (s1 _ _ h1)
      · exact b1 _ h1 _
    · rcases h2 with h2 | h2
      · exact .inl (s2 _ _ h2)
      · exact b2 _ h2 _
/-- A part that is read alike. -/
theorem Sim10.then {α β : Type} {Q : β → Bool} {f : St → α × St} {k h : α → St → β × St} (hk : ∀ a, Sim10 Q (k a) (h a)) : Sim10 Q (bindR f k) (bindR f h) := fun _ => hk _ _
theorem Sim10.ite {α : Type} {P : α → Bool} {p : Prop} [Decidable p] {f g f' g' : St → α × St} (h1 : p → Sim10 P f g) (h2 : ¬ p → Sim10 P f' g') : Sim10 P (if p then f else f') (if p then g else g') := by
  by_cases h : p
  · rw [if_pos h, if_pos h]; exact h1 h
  · rw [if_neg h, if_neg h]; exact h2 h
/-- What is bad stays bad. -/
theorem Bad10.bind {α β : Type} {P : α → Bool} {Q : β → Bool} {f : St → α × St} {k : α → St → β × St} {s : St} (h : Bad10 P (f s)) (b : ∀ a, P a = false → ∀ s, Bad10 Q (k a s)) (st : ∀ a, Stays (k a)) : Bad10 Q (bindR f k s) := by
  unfold bindR
  rcases h with h | h
  · exact .inl (st _ _ h)
  · exact b _ h _

theorem ints10_len (s : St) : ∀ n, (ints10 n s).1.length = n
  | 0 => rfl
  | n + 1 => by rw [ints10, List.length_append, ints10_len s n]; rfl
def few10 (l : List Int) : Bool := decide (l.length ≤ 9)
theorem list10_sim (m : Int) (hm : 9 ≤ m) : Sim10 few10 (list10 9) (list10 m) := by
  intro s
  have hb := getS_bd s.1
  by_cases h : (getS s.1).1 ≤ 9
  · left
    unfold list10 cnt10 countS
    rw [if_neg (by omega), if_neg (by omega)]
  · right
    constructor
    · left
      unfold list10 cnt10 countS
      rw [if_pos (by omega)]
      exact stays_ints _ _ (by simp [loseS])
    · by_cases h2 : m < (getS s.1).1
      · left
        unfold list10 cnt10 countS
        rw [if_pos (by omega)]
        exact stays_ints _ _ (by simp [loseS])
      · right
        unfold few10 list10 cnt10 countS
        rw [if_neg (by omega), ints10_len]
        exact decide_eq_false (by omega)
def fewF10 (c : Conf10) : Bool := few10 c.vs && few10 c.ls
theorem good_few10 {c : Conf10} (h : fewF10 c = false) : goodF10 c = false := by
  cases hg : goodF10 c with
  | false => rfl
  | true =>
    obtain ⟨h1, h2, -, -⟩ := goodF10_parts hg
    have l1 := rises10_len h1
    have l2 := rises10_len h2
    unfold fewF10 few10 at h
    rw [decide_eq_true l1, decide_eq_true l2] at h
    cases h
theorem conf10_sim (m : Int) (hm : 9 ≤ m) : Sim10 goodF10 (conf10 9) (conf10 m) := by
  rw [conf10_bind, conf10_bind]
  have key : ∀ v l : List Int, few10 v = false ∨ few10 l = false → goodF10 ⟨v, l⟩ = false := fun v l h => good_few10 (by unfold fewF10; rcases h with h | h <;> simp [h])
  refine (list10_sim m hm).bind (fun v => (list10_sim m hm).bind (fun l => Sim10.rfl') (fun l hl s => .inr (key v l (.inr hl))) (fun l hl s => .inr (key v l (.inr hl))) (fun _ => Stays.ret _) fun _ => Stays.ret _) ?_ ?_ (fun v => (stays_list 9).bind fun _ => Stays.ret _) fun v => (stays_list m).bind fun _ => Stays.ret _
  · exact fun v hv s => .inr (key v _ (.inl hv))
  · exact fun v hv s => .inr (key v _ (.inl hv))

/-- The program's entry off a reader: a command's bytes that are none are told as the zero command. -/
def ptail10 (i t k : Int) : St → Ent10 × St :=
  if k = 2 then bindR byt10 fun x => retR ⟨i, t, k, (readC9 x).1, noF10⟩
  else if k = 3 then bindR (conf10 9) fun f => retR ⟨i, t, k, zeroC9, f⟩
  else retR ⟨i, t, k, zeroC9, noF10⟩
def pent10 : St → Ent10 × St := bindR int9 fun i => bindR int9 fun t => bindR int9 fun k => ptail10 i t k
theorem stays_ptail (i t k : Int) : Stays (ptail10 i t k) := by
  unfold ptail10
  exact Stays.ite (stays_byt.bind fun _ => Stays.ret _) (Stays.ite ((stays_conf 9).bind fun _ => Stays.ret _) (Stays.ret _))
theorem stays_pent : Stays pent10 := by
  unfold pent10
  exact stays_int.bind fun _ => stays_int.bind fun _ => stays_int.bind fun _ => stays_ptail _ _ _
theorem good9_zero : good9 zeroC9 = false := by decide +kernel
theorem goodE_k2 {i t : Int} {c : Cmd9} {f : Conf10} (h : good9 c = false) : goodE10 ⟨i, t, 2, c, f⟩ = false := by
  unfold goodE10
  simp [h]
theorem goodE_k3 {i t : Int} {c : Cmd9} {f : Conf10} (h : goodF10 f = false) : goodE10 ⟨i, t, 3, c, f⟩ = false := by
  unfold goodE10
  simp [h]
theorem tail10_sim (m : Int) (hm : 9 ≤ m) (i t k : Int) : Sim10 goodE10 (ptail10 i t k) (tail10 m i t k) := by
  unfold ptail10 tail10
  refine Sim10.ite (fun hk => ?_) fun hk => Sim10.ite (fun hk => ?_) fun hk => Sim10.rfl'
  · subst hk
    refine Sim10.then fun x s => ?_
    by_cases h : (readC9 x).2 = 0
    · left
      unfold bindR holdR retR
      rw [decide_eq_true h]
      rfl
    · right
      have hz : (readC9 x).1 = zeroC9 := by
        unfold readC9 at h ⊢
        split at h
        · exact absurd rfl h
        · rename_i hc; rw [if_neg hc]
      constructor
      · right
        exact goodE_k2 (by rw [hz]; exact good9_zero)
      · left
        unfold bindR holdR retR
        rw [decide_eq_false h]
        rfl
  · subst hk
    exact (conf10_sim m hm).bind (fun f => Sim10.rfl') (fun f hf s => .inr (goodE_k3 hf)) (fun f hf s => .inr (goodE_k3 hf)) (fun _ => Stays.ret _) fun _ => Stays.ret _
theorem ent10_sim (m : Int) (hm : 9 ≤ m) : Sim10 goodE10 pent10 (ent10 m) := by
  unfold pent10 ent10
  exact Sim10.then fun i => Sim10.then fun t => Sim10.then fun k => tail10_sim m hm i t k
theorem goodS_f {i t : Int} {f : Conf10} {d : List Int} (h : goodF10 f = false) : goodS10 ⟨i, t, f, d⟩ = false := by
  unfold goodS10
  simp [h]
theorem snap10_sim (m : Int) (hm : 9 ≤ m) : Sim10 goodS10 (snap10 9) (snap10 m) := by
  rw [snap10_bind, snap10_bind]
  refine Sim10.then fun i => Sim10.then fun t => (conf10_sim m hm).bind (fun f => Sim10.rfl') ?_ ?_ (fun _ => stays_byt.bind fun _ => Stays.ret _) fun _ => stays_byt.bind fun _ => Stays.ret _
  · exact fun f hf s => .inr (goodS_f hf)
  · exact fun f hf s => .inr (goodS_f hf)

/-- So many entries, as the program reads them. -/
def pents10 : Nat → St → List Ent10 × St
  | 0, s => ([], s)
  | n + 1, s => ((pents10 n s).1 ++ [(pent10 (pents10 n s).2).1], (pent10 (pents10 n s).2).2)
theorem pents10_bind (n : Nat) : pents10 (n + 1) = bindR (pents10 n) fun l => bindR pent10 fun a => retR (l ++ [a]) := by
  funext s
  rw [pents10]
  unfold bindR retR
  rfl
theorem stays_pents : ∀ n, Stays (pents10 n)
  | 0 => fun _ h => h
  | n + 1 => by rw [pents10_bind]; exact (stays_pents n).bind fun _ => stays_pent.bind fun _ => Stays.ret _
def allE10 (l : List Ent10) : Bool := l.all goodE10
theorem ents10_sim (m : Int) (hm : 9 ≤ m) : ∀ n, Sim10 allE10 (pents10 n) (ents10 m n)
  | 0 => fun _ => .inl rfl
  | n + 1 => by
    rw [pents10_bind, ents10_bind]
    have key : ∀ (l : List Ent10) (a : Ent10), allE10 l = false ∨ goodE10 a = false → allE10 (l ++ [a]) = false := fun l a h => by
      unfold allE10 at *
      rw [List.all_append]
      rcases h with h | h <;> simp [h]
    refine (ents10_sim m hm n).bind (fun l => (ent10_sim m hm).bind (fun a => Sim10.rfl') (fun a ha s => .inr (key l a (.inr ha))) (fun a ha s => .inr (key l a (.inr ha))) (fun _ => Stays.ret _) fun _ => Stays.ret _) ?_ ?_ (fun _ => stays_pent.bind fun _ => Stays.ret _) fun _ => (stays_ent m).bind fun _ => Stays.ret _
    · exact fun l hl s => .inr (key l _ (.inl hl))
    · exact fun l hl s => .inr (key l _ (.inl hl))
def pmes10 (k : Int) : St → List Ent10 × St := if k = 5 then bindR (cnt10 16) fun n => pents10 n else retR []
def pmsg10 : St → Msg10 × St :=
  bindR int9 fun k => bindR int9 fun fr => bindR int9 fun to => bindR int9 fun t => bindR int9 fun i => bindR int9 fun lt => bindR int9 fun cm => bindR int9 fun ro =>
    bindR bool9 fun rej => bindR int9 fun hint => bindR (pmes10 k) fun es => bindR (msn10 9 k) fun sn => retR ⟨k, fr, to, t, i, lt, cm, ro, rej, hint, es, sn⟩
theorem stays_pmes (k : Int) : Stays (pmes10 k) := Stays.ite ((stays_cnt 16).bind fun _ => stays_pents _) (Stays.ret _)
theorem goodM_es {k fr to t i lt cm ro : Int} {rej : Bool} {hint : Int} {es : List Ent10} {sn : Snap10} (h : allE10 es = false) : goodM10 ⟨k, fr, to, t, i, lt, cm, ro, rej, hint, es, sn⟩ = false := by
  cases hg : goodM10 ⟨k, fr, to, t, i, lt, cm, ro, rej, hint, es, sn⟩ with
  | false => rfl
  | true =>
    exfalso
    have hk := goodM10_kind hg
    have : allE10 es = true := by
      unfold allE10
      rw [List.all_eq_true]
      intro e he
      by_cases h5 : k = 5
      · exact (hk.1 h5).2 e he
      · have := hk.2.1 h5
        dsimp only at this
        rw [this] at he
        cases he
    rw [h] at this
    cases this
theorem goodM_sn {fr to t i lt cm ro : Int} {rej : Bool} {hint : Int} {es : List Ent10} {sn : Snap10} (h : goodS10 sn = false) : goodM10 ⟨7, fr, to, t, i, lt, cm, ro, rej, hint, es, sn⟩ = false := by
  unfold goodM10
  simp [h]
theorem msg10_sim (m : Int) (hm : 9 ≤ m) : Sim10 goodM10 pmsg10 (msg10 m) := by
  unfold pmsg10 msg10
  refine Sim10.then fun k => Sim10.then fun fr => Sim10.then fun to => Sim10.then fun t => Sim10.then fun i => Sim10.then fun lt => Sim10.then fun cm => Sim10.then fun ro => Sim10.then fun rej => Sim10.then fun hint => ?_
  have hes : Sim10 allE10 (pmes10 k) (mes10 m k) := Sim10.ite (fun _ => Sim10.then fun n => ents10_sim m hm n) fun _ => Sim10.rfl'
  refine hes.bind (fun es => ?_) (fun es he s => ?_) (fun es he s => ?_) (fun _ => (stays_msn 9 k).bind fun _ => Stays.ret _) fun _ => (stays_msn m k).bind fun _ => Stays.ret _
  · by_cases h7 : k = 7
    · subst h7
      unfold msn10
      rw [if_pos rfl, if_pos rfl]
      exact (snap10_sim m hm).bind (fun sn => Sim10.rfl') (fun sn hs s => .inr (goodM_sn hs)) (fun sn hs s => .inr (goodM_sn hs)) (fun _ => Stays.ret _) fun _ => Stays.ret _
    · unfold msn10
      rw [if_neg h7, if_neg h7]
      exact Sim10.rfl'
  · exact .inr (goodM_es he)
  · exact .inr (goodM_es he)

/-- What a reader tells that leaves off once it is wrong. -/
def Tell10 {α : Type} (r : α × St) (x : α) (S : St) : Prop := r = (x, S) ∨ (S.2 = true ∧ r.2.2 = true)
theorem Tell10.whole {α : Type} {r : α × St} {x : α} {S : St} (h : Tell10 r x S) (good : α → Bool) (n : α) : whole10 good n (x, S) = whole10 good n r := by
  rcases h with h | ⟨h1, h2⟩
  · rw [h]
  · rw [Bad10.whole (.inl h1), Bad10.whole (.inl h2)]
theorem Tell10.refl {α : Type} (r : α × St) : Tell10 r r.1 r.2 := .inl rfl
/-- One behind another. -/
theorem Tell10.bind {α β : Type} {f : St → α × St} {g : α → St → β × St} {s S T : St} {x : α} {y : β} (h : Tell10 (f s) x S) (hg : Tell10 (g x S) y T) (st : ∀ a, Stays (g a)) (keep : S.2 = true → T.2 = true) : Tell10 (bindR f g s) y T := by
  unfold bindR
  rcases h with h | ⟨h1, h2⟩
  · rw [h]
    exact hg
  · exact .inr ⟨keep h1, st _ _ h2⟩
end Go.Proofs.YtnbaoimjcaeeaaaGreat

/-
  The walk of CommandKinds.
-/
namespace Go.Proofs.YtnbaoimjcaeeaaaGreat
open Go.RowKit Go.Lib

theorem asks_s {c n : Cmd9} (h : asks9 c n = true) : 1 ≤ c.s := by
  unfold asks9 at h
  simp only [Bool.and_eq_true, decide_eq_true_eq] at h
  exact h.1.1
theorem good_s {c : Cmd9} (h : good9 c = true) : c.k = 1 ∨ 1 ≤ c.s := by
  unfold good9 at h
  repeat' split at h
  all_goals first
    | (left; assumption)
    | (right; simp only [Bool.and_eq_true, decide_eq_true_eq] at h; first | exact asks_s h.2 | exact h.1)
    | cases h
theorem reads_is {c : Cmd9} (h : reads9 c = true) : good9 ⟨c.k, 1, 1, c.key, c.old, c.val, c.unt, c.lim⟩ = true ∧ good9 c = false ∧ changes9 c.k = false := by
  unfold reads9 at h
  split at h
  · rename_i hc
    refine ⟨h, ?_, ?_⟩
    · cases hg : good9 c with
      | false => rfl
      | true =>
        have := good_s hg
        omega
    · unfold changes9
      exact decide_eq_false (by omega)
  · cases h

/-- A command's box, and that old memory lies as it lay. -/
def Box9 (w0 w : World) (b : Nat) (c : Cmd9) : Prop := CmdAt w b c ∧ Below w0.heap.size w0 w ∧ w0.heap.size ≤ b
theorem Box9.new (w : World) (c : Cmd9) : Box9 w (w.alloc (.cells c.arr 25)) w.heap.size c := ⟨CmdAt.new w c, (Below.refl _ _).alloc (Nat.le_refl _) _, Nat.le_refl _⟩
theorem Box9.below {w0 w w' : World} {b : Nat} {c : Cmd9} (h : Box9 w0 w b c) (hb : Below w.heap.size w w') : Box9 w0 w' b c := ⟨h.1.below hb, h.2.1.trans (hb.mono h.2.1.size), h.2.2⟩
theorem Box9.more {w0 w : World} {b : Nat} {c : Cmd9} (h : Box9 w0 w b c) (x : Obj) : Box9 w0 (w.alloc x) b c := h.below ((Below.refl _ _).alloc (Nat.le_refl _) x)
theorem Box9.cells {w0 w : World} {b : Nat} {k s q : Int} {key old val unt : ByteArray} {lim : Int} (h : Box9 w0 w b ⟨k, s, q, key, old, val, unt, lim⟩) :
    w.cell? ⟨b, 0, none⟩ = some (.int .i64 k) ∧ w.cell? ⟨b, 1, none⟩ = some (.int .i64 s) ∧ w.cell? ⟨b, 2, none⟩ = some (.int .i64 q) ∧ w.cell? ⟨b, 3, none⟩ = some (.string key) ∧
    w.cell? ⟨b, 4, none⟩ = some (.string old) ∧ w.cell? ⟨b, 5, none⟩ = some (.string val) ∧ w.cell? ⟨b, 6, none⟩ = some (.string unt) ∧ w.cell? ⟨b, 7, none⟩ = some (.int .i64 lim) := h.1.cells
end Go.Proofs.YtnbaoimjcaeeaaaGreat
