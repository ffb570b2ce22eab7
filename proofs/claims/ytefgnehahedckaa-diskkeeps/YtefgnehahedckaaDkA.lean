/-
  Plain mathematics: the disk of the document: files by names with what is sure of them, the writes of the buffer, and what each call makes of them. No program is named here.
-/
import Derived.Test.YtefgnehahedckaaImA
namespace Go.Proofs.Ytefgnehahedckaa
open Go.RowKit

/-- What stands in the buffer behind a file. -/
def pend : List (ByteArray × List Int) → ByteArray → List Int
  | [], _ => []
  | w :: r, x => (if w.1 = x then w.2 else []) ++ pend r x
/-- What of it is among the buffer's first n bytes. -/
def left : Nat → List (ByteArray × List Int) → ByteArray → List Int
  | _, [], _ => []
  | n, w :: r, x => (if w.1 = x then w.2.take n else []) ++ left (n - w.2.length) r x
def tot : List (ByteArray × List Int) → Nat
  | [] => 0
  | w :: r => w.2.length + tot r
def need (n : Nat) : Nat := n / 64 + 1

theorem need_pos (n : Nat) : 1 ≤ need n := by unfold need; omega
theorem need_mono {n m : Nat} (h : n ≤ m) : need n ≤ need m := by unfold need; omega
theorem need_le (n : Nat) : n < 64 * need n := by unfold need; omega

theorem pend_append (l m : List (ByteArray × List Int)) (x : ByteArray) : pend (l ++ m) x = pend l x ++ pend m x := by
  induction l with
  | nil => rfl
  | cons w r ih => rw [List.cons_append, pend, pend, ih, List.append_assoc]
theorem tot_append (l m : List (ByteArray × List Int)) : tot (l ++ m) = tot l + tot m := by
  induction l with
  | nil => simp [tot]
  | cons w r ih => rw [List.cons_append, tot, tot, ih]; omega
theorem left_zero (l : List (ByteArray × List Int)) (x : ByteArray) : left 0 l x = [] := by
  induction l with
  | nil => rfl
  | cons w r ih => rw [left, Nat.zero_sub, ih]; simp
theorem left_all (l : List (ByteArray × List Int)) (x : ByteArray) : ∀ n, tot l ≤ n → left n l x = pend l x := by
  induction l with
  | nil => intro n _; rfl
  | cons w r ih =>
    intro n h
    rw [tot] at h
    rw [left, pend, ih _ (by omega), List.take_of_length_le (by omega)]
theorem left_pre (l : List (ByteArray × List Int)) (x : ByteArray) : ∀ n, ∃ t, pend l x = left n l x ++ t := by
  induction l with
  | nil => intro n; exact ⟨[], rfl⟩
  | cons w r ih =>
    intro n
    rw [left, pend]
    by_cases hn : w.2.length ≤ n
    · obtain ⟨t, ht⟩ := ih (n - w.2.length)
      exact ⟨t, by rw [ht, List.take_of_length_le hn, List.append_assoc]⟩
    · rw [show n - w.2.length = 0 by omega, left_zero, List.append_nil]
      by_cases hw : w.1 = x
      · rw [if_pos hw, if_pos hw]
        exact ⟨w.2.drop n ++ pend r x, by rw [← List.append_assoc, List.take_append_drop]⟩
      · rw [if_neg hw, if_neg hw]
        exact ⟨pend r x, rfl⟩
theorem left_take (l : List (ByteArray × List Int)) (x : ByteArray) (n : Nat) (b : List Int) : (b ++ pend l x).take (b.length + (left n l x).length) = b ++ left n l x := by
  obtain ⟨t, ht⟩ := left_pre l x n
  rw [ht, ← List.append_assoc, ← List.length_append]
  exact List.take_left
theorem left_le (l : List (ByteArray × List Int)) (x : ByteArray) (n : Nat) : (left n l x).length ≤ (pend l x).length := by
  obtain ⟨t, ht⟩ := left_pre l x n
  rw [ht, List.length_append]
  omega
theorem left_append (l m : List (ByteArray × List Int)) (x : ByteArray) : ∀ n, left n (l ++ m) x = left n l x ++ left (n - tot l) m x := by
  induction l with
  | nil => intro n; rfl
  | cons w r ih => intro n; rw [List.cons_append, left, left, ih, tot, List.append_assoc, Nat.sub_sub]
theorem pend_none {l : List (ByteArray × List Int)} {x : ByteArray} (h : ∀ w ∈ l, w.1 ≠ x) : pend l x = [] := by
  induction l with
  | nil => rfl
  | cons w r ih => rw [pend, if_neg (h w List.mem_cons_self), ih fun v hv => h v (List.mem_cons_of_mem _ hv)]; rfl
theorem pend_le_tot (l : List (ByteArray × List Int)) (x : ByteArray) : (pend l x).length ≤ tot l := by
  induction l with
  | nil => exact Nat.le_refl _
  | cons w r ih =>
    rw [pend, tot, List.length_append]
    split
    · omega
    · simp; omega
/-- The buffer without a file's writes. -/
theorem pend_gone (l : List (ByteArray × List Int)) (x y : ByteArray) (h : y ≠ x) : pend (l.filter fun w => decide (w.1 ≠ x)) y = pend l y := by
  induction l with
  | nil => rfl
  | cons w r ih =>
    by_cases hw : w.1 = x
    · rw [List.filter_cons_of_neg (by simp [hw]), ih, pend, if_neg (by rw [hw]; exact Ne.symm h)]; rfl
    · rw [List.filter_cons_of_pos (by simp [hw]), pend, pend, ih]
theorem tot_gone (l : List (ByteArray × List Int)) (x : ByteArray) : tot (l.filter fun w => decide (w.1 ≠ x)) + (pend l x).length = tot l := by
  induction l with
  | nil => rfl
  | cons w r ih =>
    by_cases hw : w.1 = x
    · rw [List.filter_cons_of_neg (by simp [hw]), pend, if_pos hw, tot, List.length_append]; omega
    · rw [List.filter_cons_of_pos (by simp [hw]), pend, if_neg hw, tot, tot, List.length_append, List.length_nil]; omega
/-- The buffer of a file with another name. -/
def renB (l : List (ByteArray × List Int)) (a b : ByteArray) : List (ByteArray × List Int) := l.map fun w => if w.1 = a then (b, w.2) else w
theorem tot_ren (l : List (ByteArray × List Int)) (a b : ByteArray) : tot (renB l a b) = tot l := by
  induction l with
  | nil => rfl
  | cons w r ih =>
    show tot ((if w.1 = a then (b, w.2) else w) :: renB r a b) = _
    rw [tot, ih, tot]
    split <;> rfl
theorem pend_ren_to {l : List (ByteArray × List Int)} {a b : ByteArray} (h : ∀ w ∈ l, w.1 ≠ b) : pend (renB l a b) b = pend l a := by
  induction l with
  | nil => rfl
  | cons w r ih =>
    show pend ((if w.1 = a then (b, w.2) else w) :: renB r a b) b = _
    rw [pend, ih fun v hv => h v (List.mem_cons_of_mem _ hv), pend]
    by_cases hw : w.1 = a
    · rw [if_pos hw, if_pos hw, if_pos rfl]
    · rw [if_neg hw, if_neg hw, if_neg (h w List.mem_cons_self)]
theorem pend_ren_other {l : List (ByteArray × List Int)} {a b y : ByteArray} (ha : y ≠ a) (hb : y ≠ b) : pend (renB l a b) y = pend l y := by
  induction l with
  | nil => rfl
  | cons w r ih =>
    show pend ((if w.1 = a then (b, w.2) else w) :: renB r a b) y = _
    rw [pend, ih, pend]
    by_cases hw : w.1 = a
    · rw [if_pos hw, if_neg (Ne.symm hb), if_neg (by rw [hw]; exact Ne.symm ha)]
    · rw [if_neg hw]
theorem ren_mem {l : List (ByteArray × List Int)} {a b : ByteArray} {w : ByteArray × List Int} (h : w ∈ renB l a b) : ∃ v ∈ l, w.2 = v.2 ∧ (w.1 = b ∧ v.1 = a ∨ w.1 = v.1 ∧ v.1 ≠ a) := by
  obtain ⟨v, hv, rfl⟩ := List.mem_map.1 h
  refine ⟨v, hv, ?_⟩
  by_cases hw : v.1 = a
  · rw [if_pos hw]; exact ⟨rfl, .inl ⟨rfl, hw⟩⟩
  · rw [if_neg hw]; exact ⟨rfl, .inr ⟨rfl, hw⟩⟩

/-- What is sure of a file. -/
def lk : List (ByteArray × List Int) → ByteArray → List Int
  | [], _ => []
  | f :: r, x => if f.1 = x then f.2 else lk r x
def nms (l : List (ByteArray × List Int)) : List ByteArray := l.map Prod.fst
def Rises (l : List (ByteArray × List Int)) : Prop := l.Pairwise fun f g => ltT f.1 g.1 = true
theorem Rises.nodup {l : List (ByteArray × List Int)} (h : Rises l) : (nms l).Nodup := by
  unfold nms
  rw [List.nodup_iff_pairwise_ne, List.pairwise_map]
  exact h.imp fun h => ltT_ne h
theorem lk_mem {l : List (ByteArray × List Int)} (h : (nms l).Nodup) {f : ByteArray × List Int} (hf : f ∈ l) : lk l f.1 = f.2 := by
  induction l with
  | nil => cases hf
  | cons g r ih =>
    have h' := List.nodup_cons.1 (by exact h : (g.1 :: nms r).Nodup)
    rw [lk]
    rcases List.mem_cons.1 hf with rfl | hf
    · rw [if_pos rfl]
    · rw [if_neg (fun e : g.1 = f.1 => h'.1 (by rw [e]; exact List.mem_map_of_mem hf))]
      exact ih h'.2 hf
theorem lk_pair {l : List (ByteArray × List Int)} {x : ByteArray} (h : x ∈ nms l) : (x, lk l x) ∈ l := by
  induction l with
  | nil => cases h
  | cons g r ih =>
    rw [lk]
    by_cases hg : g.1 = x
    · rw [if_pos hg, ← hg]; exact List.mem_cons_self
    · rw [if_neg hg]
      refine List.mem_cons_of_mem _ (ih ?_)
      rcases List.mem_cons.1 (by exact h : x ∈ g.1 :: nms r) with rfl | h
      · exact absurd rfl hg
      · exact h
theorem lk_none {l : List (ByteArray × List Int)} {x : ByteArray} (h : x ∉ nms l) : lk l x = [] := by
  induction l with
  | nil => rfl
  | cons g r ih =>
    have h' : x ∉ g.1 :: nms r := h
    simp only [List.mem_cons, not_or] at h'
    rw [lk, if_neg (Ne.symm h'.1), ih h'.2]

/-- A file among the others, by names. -/
def insF (x : ByteArray) (b : List Int) : List (ByteArray × List Int) → List (ByteArray × List Int)
  | [] => [(x, b)]
  | f :: r => if ltT x f.1 = true then (x, b) :: f :: r else f :: insF x b r
theorem insF_perm (x : ByteArray) (b : List Int) (l : List (ByteArray × List Int)) : (insF x b l).Perm ((x, b) :: l) := by
  induction l with
  | nil => exact List.Perm.refl _
  | cons f r ih =>
    rw [insF]
    split
    · exact List.Perm.refl _
    · exact (ih.cons f).trans (List.Perm.swap _ _ _)
theorem insF_rise {x : ByteArray} {b : List Int} {l : List (ByteArray × List Int)} (h : Rises l) (hx : x ∉ nms l) : Rises (insF x b l) := by
  induction l with
  | nil => exact List.pairwise_singleton _ _
  | cons f r ih =>
    have h' := List.pairwise_cons.1 (by exact h : List.Pairwise _ (f :: r))
    have hx' : x ∉ f.1 :: nms r := hx
    simp only [List.mem_cons, not_or] at hx'
    rw [insF]
    split
    · rename_i hlt
      refine List.pairwise_cons.2 ⟨fun g hg => ?_, h⟩
      rcases List.mem_cons.1 hg with rfl | hg
      · exact hlt
      · exact ltT_trans hlt (h'.1 g hg)
    · rename_i hlt
      refine List.pairwise_cons.2 ⟨fun g hg => ?_, ih h'.2 hx'.2⟩
      rcases List.mem_cons.1 ((insF_perm x b r).mem_iff.1 hg) with rfl | hg
      · cases hft : ltT f.1 x with
        | true => rfl
        | false => exact absurd (ltT_tri (by simpa using hlt) hft) hx'.1
      · exact h'.1 g hg
theorem nms_ins (x : ByteArray) (b : List Int) (l : List (ByteArray × List Int)) : (nms (insF x b l)).Perm (x :: nms l) := (insF_perm x b l).map Prod.fst
theorem rise_filter {l : List (ByteArray × List Int)} (h : Rises l) (p : ByteArray × List Int → Bool) : Rises (l.filter p) := List.Pairwise.sublist List.filter_sublist h
theorem nms_filter (l : List (ByteArray × List Int)) (x y : ByteArray) : y ∈ nms (l.filter fun f => decide (f.1 ≠ x)) ↔ y ∈ nms l ∧ y ≠ x := by
  unfold nms
  simp only [List.mem_map, List.mem_filter, decide_eq_true_eq]
  constructor
  · rintro ⟨f, ⟨h1, h2⟩, rfl⟩; exact ⟨⟨f, h1, rfl⟩, h2⟩
  · rintro ⟨⟨f, h1, rfl⟩, h2⟩; exact ⟨f, ⟨h1, h2⟩, rfl⟩
theorem lk_filter {l : List (ByteArray × List Int)} {x y : ByteArray} (h : y ≠ x) : lk (l.filter fun f => decide (f.1 ≠ x)) y = lk l y := by
  induction l with
  | nil => rfl
  | cons f r ih =>
    by_cases hf : f.1 = x
    · rw [List.filter_cons_of_neg (by simp [hf]), ih, lk, if_neg (by rw [hf]; exact Ne.symm h)]
    · rw [List.filter_cons_of_pos (by simp [hf]), lk, lk, ih]
theorem lk_ins {l : List (ByteArray × List Int)} {x y : ByteArray} {b : List Int} (hx : x ∉ nms l) : lk (insF x b l) y = if y = x then b else lk l y := by
  induction l with
  | nil => simp [insF, lk, eq_comm]
  | cons f r ih =>
    have hx' : x ∉ f.1 :: nms r := hx
    simp only [List.mem_cons, not_or] at hx'
    rw [insF]
    split
    · rw [lk]
      by_cases h : x = y
      · rw [if_pos h, if_pos h.symm]
      · rw [if_neg h, if_neg (Ne.symm h)]
    · rw [lk, lk, ih hx'.2]
      by_cases h : f.1 = y
      · rw [if_pos h, if_pos h, if_neg (by rw [← h]; exact Ne.symm hx'.1)]
      · rw [if_neg h, if_neg h]

/-- All files' blocks. -/
def usedL (buf : List (ByteArray × List Int)) : List (ByteArray × List Int) → Nat
  | [] => 0
  | f :: r => need (f.2.length + (pend buf f.1).length) + usedL buf r
theorem used_congr {b1 b2 : List (ByteArray × List Int)} : ∀ {l : List (ByteArray × List Int)}, (∀ f ∈ l, (pend b1 f.1).length = (pend b2 f.1).length) → usedL b1 l = usedL b2 l
  | [], _ => rfl
  | f :: r, h => by rw [usedL, usedL, h f List.mem_cons_self, used_congr fun g hg => h g (List.mem_cons_of_mem _ hg)]
theorem used_perm {buf l m : List (ByteArray × List Int)} (h : l.Perm m) : usedL buf l = usedL buf m := by
  induction h with
  | nil => rfl
  | cons f _ ih => rw [usedL, usedL, ih]
  | swap f g r => rw [usedL, usedL, usedL, usedL]; omega
  | trans _ _ h1 h2 => exact h1.trans h2
theorem used_len (buf : List (ByteArray × List Int)) : ∀ l : List (ByteArray × List Int), l.length ≤ usedL buf l
  | [] => Nat.le_refl _
  | f :: r => by have := used_len buf r; have := need_pos (f.2.length + (pend buf f.1).length); rw [usedL, List.length_cons]; omega
theorem used_one {buf l : List (ByteArray × List Int)} {x : ByteArray} (hn : (nms l).Nodup) (hx : x ∈ nms l) :
    usedL buf (l.filter fun f => decide (f.1 ≠ x)) + need ((lk l x).length + (pend buf x).length) = usedL buf l := by
  induction l with
  | nil => cases hx
  | cons f r ih =>
    have h' := List.nodup_cons.1 (by exact hn : (f.1 :: nms r).Nodup)
    by_cases hf : f.1 = x
    · subst hf
      rw [List.filter_cons_of_neg (by simp), lk, if_pos rfl, usedL, List.filter_eq_self.2 fun g hg => ?_]
      · omega
      · have : g.1 ≠ f.1 := fun e => h'.1 (by rw [← e]; exact List.mem_map_of_mem hg)
        simpa using this
    · rw [List.filter_cons_of_pos (by simp [hf]), lk, if_neg hf, usedL, usedL]
      have hx' : x ∈ nms r := by
        rcases List.mem_cons.1 (by exact hx : x ∈ f.1 :: nms r) with rfl | h
        · exact absurd rfl hf
        · exact h
      have := ih h'.2 hx'
      omega
theorem used_ins (buf l : List (ByteArray × List Int)) (x : ByteArray) (b : List Int) : usedL buf (insF x b l) = need (b.length + (pend buf x).length) + usedL buf l := by
  rw [used_perm (insF_perm x b l), usedL]
theorem need_used {buf l : List (ByteArray × List Int)} {x : ByteArray} (hn : (nms l).Nodup) (hx : x ∈ nms l) : need ((lk l x).length + (pend buf x).length) ≤ usedL buf l := by
  have := used_one (buf := buf) hn hx
  omega
end Go.Proofs.Ytefgnehahedckaa
