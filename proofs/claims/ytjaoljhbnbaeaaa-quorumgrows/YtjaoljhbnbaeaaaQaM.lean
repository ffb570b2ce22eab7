/-
  Majorities, plainly: what the program commits is what the document tells.
-/
import Derived.Test.YtjaoljhbnbaeaaaChecked
namespace Go.Proofs.Ytjaoljhbnbaeaaa

/-- Majority of so many. -/
def maj14 (n : Nat) : Nat := if n = 0 then 0 else n / 2 + 1
def srt14 (l : List Int) : List Int := l.mergeSort fun x y => decide (x ≤ y)
/-- What the program commits. -/
def com14 (l : List Int) : Int := if l.length = 0 then 0 else (srt14 l).getD (l.length - maj14 l.length) 0
/-- How many are not below c; how many are above. -/
def ge14 (l : List Int) (c : Int) : Nat := l.countP fun y => decide (c ≤ y)
def gt14 (l : List Int) (c : Int) : Nat := l.countP fun y => decide (c < y)
/-- c is the number that is committed. -/
structure IsCom (l : List Int) (c : Int) : Prop where
  mem : c ∈ l
  ge : maj14 l.length ≤ ge14 l c
  gt : gt14 l c < maj14 l.length
theorem maj_pos {n : Nat} (h : 0 < n) : 0 < maj14 n ∧ maj14 n ≤ n ∧ n < 2 * maj14 n := by
  unfold maj14; rw [if_neg (by omega)]; omega
theorem gt_of_lt (l : List Int) {c d : Int} (h : c < d) : ge14 l d ≤ gt14 l c :=
  List.countP_mono_left fun x _ hx => by simp only [decide_eq_true_eq] at *; omega
theorem IsCom.eq {l : List Int} {c d : Int} (h : IsCom l c) (k : IsCom l d) : c = d := by
  rcases Int.lt_trichotomy c d with hl | he | hl
  · have := gt_of_lt l hl; have := h.gt; have := k.ge; omega
  · exact he
  · have := gt_of_lt l hl; have := k.gt; have := h.ge; omega
theorem srt_perm (l : List Int) : (srt14 l).Perm l := List.mergeSort_perm _ _
theorem srt_len (l : List Int) : (srt14 l).length = l.length := List.length_mergeSort _
theorem srt_up (l : List Int) : (srt14 l).Pairwise (· ≤ ·) := by
  have h := List.pairwise_mergeSort (le := fun x y : Int => decide (x ≤ y)) (fun a b c h1 h2 => by simp only [decide_eq_true_eq] at *; omega) (fun a b => by simp only [Bool.or_eq_true, decide_eq_true_eq]; omega) l
  exact h.imp fun h => by simpa using h
theorem sorted_com (s : List Int) (k : Nat) (hk : k < s.length) (h : s.Pairwise (· ≤ ·)) : s.length - k ≤ ge14 s (s.getD k 0) ∧ gt14 s (s.getD k 0) < s.length - k := by
  have hs : s = s.take k ++ s.getD k 0 :: s.drop (k + 1) := by
    rw [List.getD_eq_getElem?_getD, List.getElem?_eq_getElem hk, Option.getD_some, ← List.drop_eq_getElem_cons hk, List.take_append_drop]
  generalize hc : s.getD k 0 = c at *
  have hl : s.length = k + (1 + (s.drop (k + 1)).length) := by rw [List.length_drop]; omega
  have h' := h
  rw [hs] at h'
  rw [List.pairwise_append] at h'
  obtain ⟨_, h2, h3⟩ := h'
  rw [List.pairwise_cons] at h2
  have e1 : ge14 s c = (s.take k).countP (fun y => decide (c ≤ y)) + (1 + (s.drop (k + 1)).length) := by
    unfold ge14
    conv => lhs; rw [hs]
    have q : (s.drop (k + 1)).countP (fun y => decide (c ≤ y)) = (s.drop (k + 1)).length := List.countP_eq_length.2 fun x hx => by simpa using h2.1 x hx
    rw [List.countP_append, List.countP_cons_of_pos (by simp), q]
    omega
  have e2 : gt14 s c = (s.drop (k + 1)).countP (fun y => decide (c < y)) := by
    unfold gt14
    conv => lhs; rw [hs]
    have q : (s.take k).countP (fun y => decide (c < y)) = 0 := List.countP_eq_zero.2 fun x hx => by
      have := h3 x hx c (List.mem_cons_self); simpa using this
    rw [List.countP_append, List.countP_cons_of_neg (by simp), q, Nat.zero_add]
  have e3 : (s.drop (k + 1)).countP (fun y => decide (c < y)) ≤ (s.drop (k + 1)).length := List.countP_le_length
  constructor <;> omega
theorem com_is (l : List Int) (h : 0 < l.length) : IsCom l (com14 l) := by
  have hp := srt_perm l
  have hl := srt_len l
  have hm := maj_pos h
  have hk : l.length - maj14 l.length < (srt14 l).length := by omega
  have hs := sorted_com (srt14 l) _ hk (srt_up l)
  unfold com14
  rw [if_neg (by omega)]
  generalize hc : (srt14 l).getD (l.length - maj14 l.length) 0 = c at *
  have g1 : ge14 (srt14 l) c = ge14 l c := hp.countP_eq _
  have g2 : gt14 (srt14 l) c = gt14 l c := hp.countP_eq _
  rw [g1, g2, hl] at hs
  refine ⟨?_, by omega, by omega⟩
  rw [← hp.mem_iff, ← hc, List.getD_eq_getElem?_getD, List.getElem?_eq_getElem hk]
  exact List.getElem_mem hk
/-- The document's loop. -/
def step14 (l : List Int) (a : Int × Bool) (x : Int) : Int × Bool := if maj14 l.length ≤ ge14 l x ∧ (a.2 = false ∨ a.1 < x) then (x, true) else a
def rcom14 (l : List Int) (k : Nat) : Int × Bool := (l.take k).foldl (step14 l) (0, false)
theorem rcom_succ (l : List Int) (k : Nat) (h : k < l.length) : rcom14 l (k + 1) = step14 l (rcom14 l k) (l.getD k 0) := by
  unfold rcom14
  rw [List.take_add_one, List.getElem?_eq_getElem h, List.foldl_append, List.getD_eq_getElem?_getD, List.getElem?_eq_getElem h]
  rfl
theorem rcom_inv (l : List Int) (k : Nat) (hk : k ≤ l.length) : ((rcom14 l k).2 = true → (rcom14 l k).1 ∈ l ∧ maj14 l.length ≤ ge14 l (rcom14 l k).1) ∧
    ∀ i, i < k → maj14 l.length ≤ ge14 l (l.getD i 0) → (rcom14 l k).2 = true ∧ l.getD i 0 ≤ (rcom14 l k).1 := by
  induction k with
  | zero => exact ⟨fun h => by simp [rcom14] at h, fun i hi => by omega⟩
  | succ k ih =>
    obtain ⟨i1, i2⟩ := ih (by omega)
    rw [rcom_succ l k (by omega)]
    have hmem : l.getD k 0 ∈ l := by rw [List.getD_eq_getElem?_getD, List.getElem?_eq_getElem (by omega)]; exact List.getElem_mem _
    generalize rcom14 l k = a at *
    unfold step14
    split
    · rename_i hc
      refine ⟨fun _ => ⟨hmem, hc.1⟩, fun i hi hg => ⟨rfl, ?_⟩⟩
      rcases Nat.lt_succ_iff_lt_or_eq.1 hi with hlt | rfl
      · obtain ⟨f1, f2⟩ := i2 i hlt hg
        rcases hc.2 with h0 | h0
        · rw [h0] at f1; cases f1
        · exact Int.le_trans f2 (Int.le_of_lt h0)
      · exact Int.le_refl _
    · rename_i hc
      refine ⟨i1, fun i hi hg => ?_⟩
      rcases Nat.lt_succ_iff_lt_or_eq.1 hi with hlt | rfl
      · exact i2 i hlt hg
      · have hn : ¬ (a.2 = false ∨ a.1 < l.getD i 0) := fun h0 => hc ⟨hg, h0⟩
        constructor
        · cases h : a.2
          · exact absurd (Or.inl h) hn
          · rfl
        · exact Int.not_lt.1 fun h0 => hn (.inr h0)
theorem rcom_com (l : List Int) : (rcom14 l l.length).1 = com14 l := by
  by_cases h0 : l.length = 0
  · obtain rfl := List.eq_nil_of_length_eq_zero h0
    rfl
  · have hc := com_is l (by omega)
    obtain ⟨i1, i2⟩ := rcom_inv l l.length (Nat.le_refl _)
    obtain ⟨i, hi, he⟩ := List.getElem_of_mem hc.mem
    have hg : l.getD i 0 = com14 l := by rw [List.getD_eq_getElem?_getD, List.getElem?_eq_getElem hi]; exact he
    obtain ⟨f1, f2⟩ := i2 i hi (by rw [hg]; exact hc.ge)
    rw [hg] at f2
    obtain ⟨g1, g2⟩ := i1 f1
    rcases Int.lt_or_eq_of_le f2 with hlt | he
    · have := gt_of_lt l hlt; have := hc.gt; omega
    · exact he.symm
theorem com_shift (l : List Int) (h : 0 < l.length) : com14 (l.map (· + 1)) = com14 l + 1 := by
  have hc := com_is l h
  have hk := com_is (l.map (· + 1)) (by simpa using h)
  refine hk.eq ⟨List.mem_map.2 ⟨_, hc.mem, rfl⟩, ?_, ?_⟩
  · have e : ge14 (l.map (· + 1)) (com14 l + 1) = ge14 l (com14 l) := by
      unfold ge14; rw [List.countP_map]; congr 1; funext x; simp
    rw [e, List.length_map]; exact hc.ge
  · have e : gt14 (l.map (· + 1)) (com14 l + 1) = gt14 l (com14 l) := by
      unfold gt14; rw [List.countP_map]; congr 1; funext x; simp
    rw [e, List.length_map]; exact hc.gt
theorem com_perm {l k : List Int} (h : 0 < l.length) (hp : k.Perm l) : com14 k = com14 l := by
  have hc := com_is l h
  have hk := com_is k (by rw [hp.length_eq]; exact h)
  refine hk.eq ⟨hp.mem_iff.2 hc.mem, ?_, ?_⟩
  · have e : ge14 k (com14 l) = ge14 l (com14 l) := hp.countP_eq _
    rw [e, hp.length_eq]; exact hc.ge
  · have e : gt14 k (com14 l) = gt14 l (com14 l) := hp.countP_eq _
    rw [e, hp.length_eq]; exact hc.gt
theorem com_one (n : Int) : com14 [n] = n := by
  have h := (com_is [n] (by simp)).mem
  simpa using h
/-- Have two sets a member of a third one in common? -/
def meet14 (a b l : List Int) : Bool := l.any fun n => a.contains n && b.contains n
theorem meet_comm (a b l : List Int) : meet14 a b l = meet14 b a l := by
  unfold meet14; congr 1; funext n; exact Bool.and_comm _ _
def in14 (a l : List Int) : Nat := l.countP fun n => a.contains n
theorem two_meet (a b l : List Int) (p : maj14 l.length ≤ in14 a l) (q : maj14 l.length ≤ in14 b l) (h : 0 < l.length) : meet14 a b l = true := by
  cases hm : meet14 a b l with
  | true => rfl
  | false =>
    have hno : ∀ n ∈ l, ¬ (a.contains n = true ∧ b.contains n = true) := fun n hn hc => by
      have : meet14 a b l = true := List.any_eq_true.2 ⟨n, hn, by rw [hc.1, hc.2]; rfl⟩
      rw [hm] at this; cases this
    have hs : ∀ k : List Int, (∀ n ∈ k, ¬ (a.contains n = true ∧ b.contains n = true)) → in14 a k + in14 b k ≤ k.length := by
      intro k
      induction k with
      | nil => intro _; exact Nat.le_refl _
      | cons x k ih =>
        intro hk
        have h1 := ih fun n hn => hk n (List.mem_cons_of_mem _ hn)
        have h2 := hk x (List.mem_cons_self)
        unfold in14 at *
        rw [List.countP_cons, List.countP_cons, List.length_cons]
        cases ha : a.contains x <;> cases hb : b.contains x
        · simp only [Bool.false_eq_true, if_false]; omega
        · simp only [Bool.false_eq_true, if_false, if_true]; omega
        · simp only [Bool.false_eq_true, if_false, if_true]; omega
        · exact absurd ⟨ha, hb⟩ h2
    have := hs l hno
    have := maj_pos h
    omega
end Go.Proofs.Ytjaoljhbnbaeaaa
