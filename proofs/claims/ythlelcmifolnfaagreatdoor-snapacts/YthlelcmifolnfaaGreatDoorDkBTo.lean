import Derived.WalkKit
import Derived.Lib.Bytealg
import Derived.Lib.Strings
namespace Go.Proofs.YthlelcmifolnfaaGreatDoor
open Go.RowKit
theorem u8_tri {a b : UInt8} (h1 : ¬ a < b) (h2 : ¬ b < a) : a = b := by
  have h1' : b.toNat ≤ a.toNat := by rw [UInt8.lt_iff_toNat_lt] at h1; omega
  have h2' : a.toNat ≤ b.toNat := by rw [UInt8.lt_iff_toNat_lt] at h2; omega
  exact UInt8.toNat_inj.1 (by omega)
theorem less_irrefl : ∀ x : List UInt8, Op.bytesLess x x = false
  | [] => rfl
  | a :: x => by rw [Op.bytesLess, less_irrefl x]; simp
theorem less_trans : ∀ x y z : List UInt8, Op.bytesLess x y = true → Op.bytesLess y z = true → Op.bytesLess x z = true
  | [], [], _, h, _ => by simp [Op.bytesLess] at h
  | [], _ :: _, [], _, h => by simp [Op.bytesLess] at h
  | [], _ :: _, _ :: _, _, _ => rfl
  | _ :: _, [], _, h, _ => by simp [Op.bytesLess] at h
  | _ :: _, _ :: _, [], _, h => by simp [Op.bytesLess] at h
  | a :: x, b :: y, c :: z, h1, h2 => by
    have ih := less_trans x y z
    simp only [Op.bytesLess, Bool.or_eq_true, Bool.and_eq_true, decide_eq_true_eq, beq_iff_eq] at h1 h2 ⊢
    rcases h1 with h1 | ⟨rfl, h1⟩
    · rcases h2 with h2 | ⟨rfl, h2⟩
      · exact .inl (UInt8.lt_trans h1 h2)
      · exact .inl h1
    · rcases h2 with h2 | ⟨rfl, h2⟩
      · exact .inl h2
      · exact .inr ⟨rfl, ih h1 h2⟩
theorem less_tri : ∀ x y : List UInt8, Op.bytesLess x y = false → Op.bytesLess y x = false → x = y
  | [], [], _, _ => rfl
  | [], _ :: _, h, _ => by simp [Op.bytesLess] at h
  | _ :: _, [], _, h => by simp [Op.bytesLess] at h
  | a :: x, b :: y, h1, h2 => by
    have ih := less_tri x y
    simp only [Op.bytesLess, Bool.or_eq_false_iff, Bool.and_eq_false_imp, decide_eq_false_iff_not, beq_iff_eq] at h1 h2
    obtain rfl : a = b := u8_tri h1.1 h2.1
    rw [ih (h1.2 rfl) (h2.2 rfl)]
theorem data_inj {a b : ByteArray} (h : a.toList = b.toList) : a = b := by
  rw [Lib.toList_data, Lib.toList_data] at h
  obtain ⟨⟨x⟩⟩ := a
  obtain ⟨⟨y⟩⟩ := b
  cases h
  rfl
def ltT (a b : ByteArray) : Bool := Op.bytesLess a.toList b.toList
theorem ltT_irrefl (a : ByteArray) : ltT a a = false := less_irrefl _
theorem ltT_trans {a b c : ByteArray} (h : ltT a b = true) (k : ltT b c = true) : ltT a c = true := less_trans _ _ _ h k
theorem ltT_tri {a b : ByteArray} (h : ltT a b = false) (k : ltT b a = false) : a = b := data_inj (less_tri _ _ h k)
theorem ltT_asymm {a b : ByteArray} (h : ltT a b = true) : ltT b a = false := by
  cases k : ltT b a with
  | false => rfl
  | true => have := ltT_trans h k; rw [ltT_irrefl] at this; cases this
theorem ltT_ne {a b : ByteArray} (h : ltT a b = true) : a ≠ b := by rintro rfl; rw [ltT_irrefl] at h; cases h
def pend : List (ByteArray × List Int) → ByteArray → List Int
  | [], _ => []
  | w :: r, x => (if w.1 = x then w.2 else []) ++ pend r x
def left : Nat → List (ByteArray × List Int) → ByteArray → List Int
  | _, [], _ => []
  | n, w :: r, x => (if w.1 = x then w.2.take n else []) ++ left (n - w.2.length) r x
def tot : List (ByteArray × List Int) → Nat
  | [] => 0
  | w :: r => w.2.length + tot r
def need (n : Nat) : Nat := n / 64 + 1

theorem need_pos (n : Nat) : 1 ≤ need n := by unfold need; omega
theorem need_mono {n m : Nat} (h : n ≤ m) : need n ≤ need m := by unfold need; omega
theorem need_le (n : Nat) : n < 64 * need n := by unfold need; omega

theorem pend_append (l m : List (ByteArray × List Int)) (x : ByteArray) : pend (l ++ m) x = pend l x ++ pend m x := by
  induction l with
  | nil => rfl
  | cons w r ih => rw [List.cons_append, pend, pend, ih, List.append_assoc]
theorem tot_append (l m : List (ByteArray × List Int)) : tot (l ++ m) = tot l + tot m := by
  induction l with
  | nil => simp [tot]
  | cons w r ih => rw [List.cons_append, tot, tot, ih]; omega
theorem left_zero (l : List (ByteArray × List Int)) (x : ByteArray) : left 0 l x = [] := by
  induction l with
  | nil => rfl
  | cons w r ih => rw [left, Nat.zero_sub, ih]; simp
theorem left_all (l : List (ByteArray × List Int)) (x : ByteArray) : ∀ n, tot l ≤ n → left n l x = pend l x := by
  induction l with
  | nil => intro n _; rfl
  | cons w r ih =>
    intro n h
    rw [tot] at h
    rw [left, pend, ih _ (by omega), List.take_of_length_le (by omega)]
theorem left_pre (l : List (ByteArray × List Int)) (x : ByteArray) : ∀ n, ∃ t, pend l x = left n l x ++ t := by
  induction l with
  | nil => intro n; exact ⟨[], rfl⟩
  | cons w r ih =>
    intro n
    rw [left, pend]
    by_cases hn : w.2.length ≤ n
    · obtain ⟨t, ht⟩ := ih (n - w.2.length)
      exact ⟨t, by rw [ht, List.take_of_length_le hn, List.append_assoc]⟩
    · rw [show n - w.2.length = 0 by omega, left_zero, List.append_nil]
      by_cases hw : w.1 = x
      · rw [if_pos hw, if_pos hw]
        exact ⟨w.2.drop n ++ pend r x, by rw [← List.append_assoc, List.take_append_drop]⟩
      · rw [if_neg hw, if_neg hw]
        exact ⟨pend r x, rfl⟩
theorem left_take (l : List (ByteArray × List Int)) (x : ByteArray) (n : Nat) (b : List Int) : (b ++ pend l x).take (b.length + (left n l x).length) = b ++ left n l x := by
  obtain ⟨t, ht⟩ := left_pre l x n
  rw [ht, ← List.append_assoc, ← List.length_append]
  exact List.take_left
theorem left_le (l : List (ByteArray × List Int)) (x : ByteArray) (n : Nat) : (left n l x).length ≤ (pend l x).length := by
  obtain ⟨t, ht⟩ := left_pre l x n
  rw [ht, List.length_append]
  omega
theorem left_append (l m : List (ByteArray × List Int)) (x : ByteArray) : ∀ n, left n (l ++ m) x = left n l x ++ left (n - tot l) m x := by
  induction l with
  | nil => intro n; rfl
  | cons w r ih => intro n; rw [List.cons_append, left, left, ih, tot, List.append_assoc, Nat.sub_sub]
theorem pend_none {l : List (ByteArray × List Int)} {x : ByteArray} (h : ∀ w ∈ l, w.1 ≠ x) : pend l x = [] := by
  induction l with
  | nil => rfl
  | cons w r ih => rw [pend, if_neg (h w List.mem_cons_self), ih fun v hv => h v (List.mem_cons_of_mem _ hv)]; rfl
theorem pend_le_tot (l : List (ByteArray × List Int)) (x : ByteArray) : (pend l x).length ≤ tot l := by
  induction l with
  | nil => exact Nat.le_refl _
  | cons w r ih =>
    rw [pend, tot, List.length_append]
    split
    · omega
    · simp; omega
theorem pend_gone (l : List (ByteArray × List Int)) (x y : ByteArray) (h : y ≠ x) : pend (l.filter fun w => decide (w.1 ≠ x)) y = pend l y := by
  induction l with
  | nil => rfl
  | cons w r ih =>
    by_cases hw : w.1 = x
    · rw [List.filter_cons_of_neg (by simp [hw]), ih, pend, if_neg (by rw [hw]; exact Ne.symm h)]; rfl
    · rw [List.filter_cons_of_pos (by simp [hw]), pend, pend, ih]
theorem tot_gone (l : List (ByteArray × List Int)) (x : ByteArray) : tot (l.filter fun w => decide (w.1 ≠ x)) + (pend l x).length = tot l := by
  induction l with
  | nil => rfl
  | cons w r ih =>
    by_cases hw : w.1 = x
    · rw [List.filter_cons_of_neg (by simp [hw]), pend, if_pos hw, tot, List.length_append]; omega
    · rw [List.filter_cons_of_pos (by simp [hw]), pend, if_neg hw, tot, tot, List.length_append, List.length_nil]; omega
def renB (l : List (ByteArray × List Int)) (a b : ByteArray) : List (ByteArray × List Int) := l.map fun w => if w.1 = a then (b, w.2) else w
theorem tot_ren (l : List (ByteArray × List Int)) (a b : ByteArray) : tot (renB l a b) = tot l := by
  induction l with
  | nil => rfl
  | cons w r ih =>
    show tot ((if w.1 = a then (b, w.2) else w) :: renB r a b) = _
    rw [tot, ih, tot]
    split <;> rfl
theorem pend_ren_to {l : List (ByteArray × List Int)} {a b : ByteArray} (h : ∀ w ∈ l, w.1 ≠ b) : pend (renB l a b) b = pend l a := by
  induction l with
  | nil => rfl
  | cons w r ih =>
    show pend ((if w.1 = a then (b, w.2) else w) :: renB r a b) b = _
    rw [pend, ih fun v hv => h v (List.mem_cons_of_mem _ hv), pend]
    by_cases hw : w.1 = a
    · rw [if_pos hw, if_pos hw, if_pos rfl]
    · rw [if_neg hw, if_neg hw, if_neg (h w List.mem_cons_self)]
theorem pend_ren_other {l : List (ByteArray × List Int)} {a b y : ByteArray} (ha : y ≠ a) (hb : y ≠ b) : pend (renB l a b) y = pend l y := by
  induction l with
  | nil => rfl
  | cons w r ih =>
    show pend ((if w.1 = a then (b, w.2) else w) :: renB r a b) y = _
    rw [pend, ih, pend]
    by_cases hw : w.1 = a
    · rw [if_pos hw, if_neg (Ne.symm hb), if_neg (by rw [hw]; exact Ne.symm ha)]
    · rw [if_neg hw]
theorem ren_mem {l : List (ByteArray × List Int)} {a b : ByteArray} {w : ByteArray × List Int} (h : w ∈ renB l a b) : ∃ v ∈ l, w.2 = v.2 ∧ (w.1 = b ∧ v.1 = a ∨ w.1 = v.1 ∧ v.1 ≠ a) := by
  obtain ⟨v, hv, rfl⟩ := List.mem_map.1 h
  refine ⟨v, hv, ?_⟩
  by_cases hw : v.1 = a
  · rw [if_pos hw]; exact ⟨rfl, .inl ⟨rfl, hw⟩⟩
  · rw [if_neg hw]; exact ⟨rfl, .inr ⟨rfl, hw⟩⟩

def lk : List (ByteArray × List Int) → ByteArray → List Int
  | [], _ => []
  | f :: r, x => if f.1 = x then f.2 else lk r x
def nms (l : List (ByteArray × List Int)) : List ByteArray := l.map Prod.fst
def Rises (l : List (ByteArray × List Int)) : Prop := l.Pairwise fun f g => ltT f.1 g.1 = true
theorem Rises.nodup {l : List (ByteArray × List Int)} (h : Rises l) : (nms l).Nodup := by
  unfold nms
  rw [List.nodup_iff_pairwise_ne, List.pairwise_map]
  exact h.imp fun h => ltT_ne h
theorem lk_mem {l : List (ByteArray × List Int)} (h : (nms l).Nodup) {f : ByteArray × List Int} (hf : f ∈ l) : lk l f.1 = f.2 := by
  induction l with
  | nil => cases hf
  | cons g r ih =>
    have h' := List.nodup_cons.1 (by exact h : (g.1 :: nms r).Nodup)
    rw [lk]
    rcases List.mem_cons.1 hf with rfl | hf
    · rw [if_pos rfl]
    · rw [if_neg (fun e : g.1 = f.1 => h'.1 (by rw [e]; exact List.mem_map_of_mem hf))]
      exact ih h'.2 hf
theorem lk_pair {l : List (ByteArray × List Int)} {x : ByteArray} (h : x ∈ nms l) : (x, lk l x) ∈ l := by
  induction l with
  | nil => cases h
  | cons g r ih =>
    rw [lk]
    by_cases hg : g.1 = x
    · rw [if_pos hg, ← hg]; exact List.mem_cons_self
    · rw [if_neg hg]
      refine List.mem_cons_of_mem _ (ih ?_)
      rcases List.mem_cons.1 (by exact h : x ∈ g.1 :: nms r) with rfl | h
      · exact absurd rfl hg
      · exact h
theorem lk_none {l : List (ByteArray × List Int)} {x : ByteArray} (h : x ∉ nms l) : lk l x = [] := by
  induction l with
  | nil => rfl
  | cons g r ih =>
    have h' : x ∉ g.1 :: nms r := h
    simp only [List.mem_cons, not_or] at h'
    rw [lk, if_neg (Ne.symm h'.1), ih h'.2]

def insF (x : ByteArray) (b : List Int) : List (ByteArray × List Int) → List (ByteArray × List Int)
  | [] => [(x, b)]
  | f :: r => if ltT x f.1 = true then (x, b) :: f :: r else f :: insF x b r
theorem insF_perm (x : ByteArray) (b : List Int) (l : List (ByteArray × List Int)) : (insF x b l).Perm ((x, b) :: l) := by
  induction l with
  | nil => exact List.Perm.refl _
  | cons f r ih =>
    rw [insF]
    split
    · exact List.Perm.refl _
    · exact (ih.cons f).trans (List.Perm.swap _ _ _)
theorem insF_rise {x : ByteArray} {b : List Int} {l : List (ByteArray × List Int)} (h : Rises l) (hx : x ∉ nms l) : Rises (insF x b l) := by
  induction l with
  | nil => exact List.pairwise_singleton _ _
  | cons f r ih =>
    have h' := List.pairwise_cons.1 (by exact h : List.Pairwise _ (f :: r))
    have hx' : x ∉ f.1 :: nms r := hx
    simp only [List.mem_cons, not_or] at hx'
    rw [insF]
    split
    · rename_i hlt
      refine List.pairwise_cons.2 ⟨fun g hg => ?_, h⟩
      rcases List.mem_cons.1 hg with rfl | hg
      · exact hlt
      · exact ltT_trans hlt (h'.1 g hg)
    · rename_i hlt
      refine List.pairwise_cons.2 ⟨fun g hg => ?_, ih h'.2 hx'.2⟩
      rcases List.mem_cons.1 ((insF_perm x b r).mem_iff.1 hg) with rfl | hg
      · cases hft : ltT f.1 x with
        | true => rfl
        | false => exact absurd (ltT_tri (by simpa using hlt) hft) hx'.1
      · exact h'.1 g hg
theorem nms_ins (x : ByteArray) (b : List Int) (l : List (ByteArray × List Int)) : (nms (insF x b l)).Perm (x :: nms l) := (insF_perm x b l).map Prod.fst
theorem rise_filter {l : List (ByteArray × List Int)} (h : Rises l) (p : ByteArray × List Int → Bool) : Rises (l.filter p) := List.Pairwise.sublist List.filter_sublist h
theorem nms_filter (l : List (ByteArray × List Int)) (x y : ByteArray) : y ∈ nms (l.filter fun f => decide (f.1 ≠ x)) ↔ y ∈ nms l ∧ y ≠ x := by
  unfold nms
  simp only [List.mem_map, List.mem_filter, decide_eq_true_eq]
  constructor
  · rintro ⟨f, ⟨h1, h2⟩, rfl⟩; exact ⟨⟨f, h1, rfl⟩, h2⟩
  · rintro ⟨⟨f, h1, rfl⟩, h2⟩; exact ⟨f, ⟨h1, h2⟩, rfl⟩
theorem lk_filter {l : List (ByteArray × List Int)} {x y : ByteArray} (h : y ≠ x) : lk (l.filter fun f => decide (f.1 ≠ x)) y = lk l y := by
  induction l with
  | nil => rfl
  | cons f r ih =>
    by_cases hf : f.1 = x
    · rw [List.filter_cons_of_neg (by simp [hf]), ih, lk, if_neg (by rw [hf]; exact Ne.symm h)]
    · rw [List.filter_cons_of_pos (by simp [hf]), lk, lk, ih]
theorem lk_ins {l : List (ByteArray × List Int)} {x y : ByteArray} {b : List Int} (hx : x ∉ nms l) : lk (insF x b l) y = if y = x then b else lk l y := by
  induction l with
  | nil => simp [insF, lk, eq_comm]
  | cons f r ih =>
    have hx' : x ∉ f.1 :: nms r := hx
    simp only [List.mem_cons, not_or] at hx'
    rw [insF]
    split
    · rw [lk]
      by_cases h : x = y
      · rw [if_pos h, if_pos h.symm]
      · rw [if_neg h, if_neg (Ne.symm h)]
    · rw [lk, lk, ih hx'.2]
      by_cases h : f.1 = y
      · rw [if_pos h, if_pos h, if_neg (by rw [← h]; exact Ne.symm hx'.1)]
      · rw [if_neg h, if_neg h]

def usedL (buf : List (ByteArray × List Int)) : List (ByteArray × List Int) → Nat
  | [] => 0
  | f :: r => need (f.2.length + (pend buf f.1).length) + usedL buf r
theorem used_congr {b1 b2 : List (ByteArray × List Int)} : ∀ {l : List (ByteArray × List Int)}, (∀ f ∈ l, (pend b1 f.1).length = (pend b2 f.1).length) → usedL b1 l = usedL b2 l
  | [], _ => rfl
  | f :: r, h => by rw [usedL, usedL, h f List.mem_cons_self, used_congr fun g hg => h g (List.mem_cons_of_mem _ hg)]
theorem used_perm {buf l m : List (ByteArray × List Int)} (h : l.Perm m) : usedL buf l = usedL buf m := by
  induction h with
  | nil => rfl
  | cons f _ ih => rw [usedL, usedL, ih]
  | swap f g r => rw [usedL, usedL, usedL, usedL]; omega
  | trans _ _ h1 h2 => exact h1.trans h2
theorem used_len (buf : List (ByteArray × List Int)) : ∀ l : List (ByteArray × List Int), l.length ≤ usedL buf l
  | [] => Nat.le_refl _
  | f :: r => by have := used_len buf r; have := need_pos (f.2.length + (pend buf f.1).length); rw [usedL, List.length_cons]; omega
theorem used_one {buf l : List (ByteArray × List Int)} {x : ByteArray} (hn : (nms l).Nodup) (hx : x ∈ nms l) :
    usedL buf (l.filter fun f => decide (f.1 ≠ x)) + need ((lk l x).length + (pend buf x).length) = usedL buf l := by
  induction l with
  | nil => cases hx
  | cons f r ih =>
    have h' := List.nodup_cons.1 (by exact hn : (f.1 :: nms r).Nodup)
    by_cases hf : f.1 = x
    · subst hf
      rw [List.filter_cons_of_neg (by simp), lk, if_pos rfl, usedL, List.filter_eq_self.2 fun g hg => ?_]
      · omega
      · have : g.1 ≠ f.1 := fun e => h'.1 (by rw [← e]; exact List.mem_map_of_mem hg)
        simpa using this
    · rw [List.filter_cons_of_pos (by simp [hf]), lk, if_neg hf, usedL, usedL]
      have hx' : x ∈ nms r := by
        rcases List.mem_cons.1 (by exact hx : x ∈ f.1 :: nms r) with rfl | h
        · exact absurd rfl hf
        · exact h
      have := ih h'.2 hx'
      omega
theorem used_ins (buf l : List (ByteArray × List Int)) (x : ByteArray) (b : List Int) : usedL buf (insF x b l) = need (b.length + (pend buf x).length) + usedL buf l := by
  rw [used_perm (insF_perm x b l), usedL]
theorem need_used {buf l : List (ByteArray × List Int)} {x : ByteArray} (hn : (nms l).Nodup) (hx : x ∈ nms l) : need ((lk l x).length + (pend buf x).length) ≤ usedL buf l := by
  have := used_one (buf := buf) hn hx
  omega
def letN (c : Nat) : Bool := decide (97 ≤ c) && decide (c ≤ 122)
def digN (c : Nat) : Bool := decide (48 ≤ c) && decide (c ≤ 57)
def chN (c : Nat) : Bool := letN c || digN c || c == 46 || c == 45
def goodN (x : ByteArray) : Bool := decide (1 ≤ x.size) && decide (x.size ≤ 24) && letN ((x.data.toList.getD 0 0).toNat) && x.data.toList.all fun c => chN c.toNat
theorem good_size {x : ByteArray} (h : goodN x = true) : 1 ≤ x.size ∧ x.size ≤ 24 := by
  unfold goodN at h
  simp only [Bool.and_eq_true, decide_eq_true_eq] at h
  exact ⟨h.1.1.1, h.1.1.2⟩

def isB8 (xs : List Int) : Prop := ∀ z ∈ xs, 0 ≤ z ∧ z < 256

instance decMemT (x : ByteArray) (l : List ByteArray) : Decidable (x ∈ l) := decidable_of_iff (l.any (fun y => decide (y = x)) = true) (by simp)

structure DM where
  blocks : Nat
  L : List (ByteArray × List Int)
  buf : List (ByteArray × List Int)
  off : Bool
  ops : Nat
  n : Nat
  keep : Int

namespace DM
abbrev names (M : DM) : List ByteArray := nms M.L
def used (M : DM) : Nat := usedL M.buf M.L
def bytes (M : DM) (x : ByteArray) : List Int := lk M.L x ++ pend M.buf x
def crash (M : DM) (k : Int) : DM := { M with L := M.L.map fun f => (f.1, f.2 ++ left k.toNat M.buf f.1), buf := [], off := true }
def sync (M : DM) : DM := { M with L := M.L.map fun f => (f.1, f.2 ++ pend M.buf f.1), buf := [] }
def begins (M : DM) : Bool := decide (M.n ≠ 1)
def begun (M : DM) : DM := if M.n = 1 then ({ M with ops := M.ops + 1, n := 0 }).crash M.keep else { M with ops := M.ops + 1, n := M.n - 1 }
def act (M : DM) (f : DM → Nat × DM) : Nat × DM := if M.begins = true then f M.begun else (9, M.begun)
def gone (M : DM) (x : ByteArray) : DM := { M with L := M.L.filter fun f => decide (f.1 ≠ x), buf := M.buf.filter fun w => decide (w.1 ≠ x) }
def put (M : DM) (x : ByteArray) (b : List Int) : DM := { M with L := insF x b M.L }
def create1 (M : DM) (x : ByteArray) : Nat × DM := if x ∈ M.names then (0, (M.gone x).put x []) else if M.blocks ≤ M.used then (7, M) else (0, M.put x [])
def create (M : DM) (x : ByteArray) : Nat × DM := if M.off = true then (9, M) else if goodN x = false then (3, M) else M.act fun M => M.create1 x
def more (M : DM) (x : ByteArray) (b : List Int) : Nat := need ((M.bytes x).length + b.length) - need (M.bytes x).length
def append1 (M : DM) (x : ByteArray) (b : List Int) : Nat × DM := if M.blocks - M.used < M.more x b then (7, M) else (0, { M with buf := M.buf ++ [(x, b)] })
def append (M : DM) (x : ByteArray) (b : List Int) : Nat × DM := if M.off = true then (9, M) else if x ∉ M.names then (4, M) else M.act fun M => M.append1 x b
def syncs (M : DM) : Nat × DM := if M.off = true then (9, M) else M.act fun M => (0, M.sync)
def ren (M : DM) (a b : ByteArray) : DM := { M with L := insF b (lk M.L a) (M.L.filter fun f => decide (f.1 ≠ a)), buf := renB M.buf a b }
def rename1 (M : DM) (a b : ByteArray) : DM := if a = b then M else (M.gone b).ren a b
def rename (M : DM) (a b : ByteArray) : Nat × DM := if M.off = true then (9, M) else if goodN b = false then (3, M) else if a ∉ M.names then (4, M) else M.act fun M => (0, M.rename1 a b)
def remove (M : DM) (x : ByteArray) : Nat × DM := if M.off = true then (9, M) else if x ∉ M.names then (4, M) else M.act fun M => (0, M.gone x)
def arm (M : DM) (n k : Int) : Nat × DM := if M.off = true then (9, M) else (0, { M with n := n.toNat, keep := k })
def start (M : DM) : DM := { M with off := false, n := 0 }
def empty (blocks : Nat) : DM := ⟨blocks, [], [], false, 0, 0, 0⟩
end DM

def xor8 (z y : Int) : Int := ((z.toNat ^^^ y.toNat : Nat) : Int)
def flipB : List (ByteArray × List Int) → ByteArray → Nat → Int → List (ByteArray × List Int)
  | [], _, _, _ => []
  | w :: r, x, i, y => if w.1 = x then if i < w.2.length then (w.1, w.2.set i (xor8 (w.2.getD i 0) y)) :: r else w :: flipB r x (i - w.2.length) y else w :: flipB r x i y
def flipL (l : List (ByteArray × List Int)) (x : ByteArray) (i : Nat) (y : Int) : List (ByteArray × List Int) := l.map fun f => if f.1 = x then (f.1, f.2.set i (xor8 (f.2.getD i 0) y)) else f
def DM.flip (M : DM) (x : ByteArray) (i : Nat) (y : Int) : DM := if i < (lk M.L x).length then { M with L := flipL M.L x i y } else { M with buf := flipB M.buf x (i - (lk M.L x).length) y }
def DM.spoil (M : DM) (x : ByteArray) (i b : Int) : Nat × DM := if M.off = true then (9, M) else if x ∉ M.names then (4, M) else if i < 0 ∨ ((M.bytes x).length : Int) ≤ i ∨ b < 0 ∨ 7 < b then (6, M) else (0, M.flip x i.toNat ((2 ^ b.toNat : Nat) : Int))

structure DM.Inv (M : DM) : Prop where
  rise : Rises M.L
  good : ∀ x ∈ M.names, goodN x = true
  mem : ∀ w ∈ M.buf, w.1 ∈ M.names
  isL : ∀ f ∈ M.L, isB8 f.2
  isW : ∀ w ∈ M.buf, isB8 w.2
  fits : M.used ≤ M.blocks
  top : M.blocks ≤ 16777216
  few : M.buf.length ≤ M.ops

theorem isB8_append {a b : List Int} (ha : isB8 a) (hb : isB8 b) : isB8 (a ++ b) := fun z hz => (List.mem_append.1 hz).elim (ha z) (hb z)
theorem isB8_take {a : List Int} (ha : isB8 a) (n : Nat) : isB8 (a.take n) := fun z hz => ha z (List.mem_of_mem_take hz)
theorem isB8_nil : isB8 [] := fun z hz => by cases hz
theorem isB8_left {l : List (ByteArray × List Int)} (h : ∀ w ∈ l, isB8 w.2) (x : ByteArray) : ∀ n, isB8 (left n l x) := by
  induction l with
  | nil => intro n; exact isB8_nil
  | cons w r ih =>
    intro n
    rw [left]
    refine isB8_append ?_ (ih (fun v hv => h v (List.mem_cons_of_mem _ hv)) _)
    split
    · exact isB8_take (h w List.mem_cons_self) _
    · exact isB8_nil
theorem isB8_pend {l : List (ByteArray × List Int)} (h : ∀ w ∈ l, isB8 w.2) (x : ByteArray) : isB8 (pend l x) := by
  rw [← left_all l x (tot l) (Nat.le_refl _)]
  exact isB8_left h x _

namespace DM
variable {M : DM}
theorem Inv.nodup (h : M.Inv) : (nms M.L).Nodup := h.rise.nodup
theorem Inv.isB (h : M.Inv) (x : ByteArray) : isB8 (M.bytes x) := by
  refine isB8_append ?_ (isB8_pend h.isW x)
  by_cases hx : x ∈ M.names
  · exact h.isL _ (lk_pair hx)
  · rw [lk_none hx]; exact isB8_nil
theorem Inv.need_bytes (h : M.Inv) {x : ByteArray} (hx : x ∈ M.names) : DM.used M ≤ 16777216 ∧ Go.Proofs.YthlelcmifolnfaaGreatDoor.need (M.bytes x).length ≤ M.used := by
  have h1 := need_used (buf := M.buf) h.nodup hx
  have h2 := h.fits
  have h3 := h.top
  unfold bytes
  rw [List.length_append]
  exact ⟨by omega, h1⟩
theorem Inv.size (h : M.Inv) (x : ByteArray) : (M.bytes x).length < 1073741824 := by
  by_cases hx : x ∈ M.names
  · have h1 := h.need_bytes hx
    have := need_le (M.bytes x).length
    omega
  · have : M.bytes x = [] := by
      unfold bytes
      rw [lk_none hx, pend_none fun w hw (e : w.1 = x) => hx (by rw [← e]; exact h.mem w hw)]
      rfl
    rw [this]
    decide
theorem Inv.count (h : M.Inv) : M.L.length ≤ 16777216 := by
  have h1 := used_len M.buf M.L
  have h2 := h.fits
  have h3 := h.top
  unfold used at h2
  omega

theorem nms_map (l : List (ByteArray × List Int)) (g : ByteArray × List Int → List Int) : nms (l.map fun f => (f.1, g f)) = nms l := by
  unfold nms; rw [List.map_map]; rfl
theorem lk_map {l : List (ByteArray × List Int)} (g : ByteArray → List Int) {x : ByteArray} (hx : x ∈ nms l) : lk (l.map fun f => (f.1, f.2 ++ g f.1)) x = lk l x ++ g x := by
  induction l with
  | nil => cases hx
  | cons f r ih =>
    rw [List.map_cons, lk, lk]
    by_cases hf : f.1 = x
    · rw [if_pos hf, if_pos hf, hf]
    · rw [if_neg hf, if_neg hf]
      refine ih ?_
      rcases List.mem_cons.1 (by exact hx : x ∈ f.1 :: nms r) with rfl | h
      · exact absurd rfl hf
      · exact h
theorem used_left (buf : List (ByteArray × List Int)) (n : Nat) : ∀ l : List (ByteArray × List Int), usedL [] (l.map fun f => (f.1, f.2 ++ left n buf f.1)) ≤ usedL buf l
  | [] => Nat.le_refl _
  | f :: r => by
    have h1 := used_left buf n r
    have h2 := left_le buf f.1 n
    have h3 : Go.Proofs.YthlelcmifolnfaaGreatDoor.need (f.2 ++ left n buf f.1).length ≤ Go.Proofs.YthlelcmifolnfaaGreatDoor.need (f.2.length + (pend buf f.1).length) := need_mono (by rw [List.length_append]; omega)
    rw [List.map_cons, usedL, usedL]
    simp only [pend, List.length_nil, Nat.add_zero]
    omega
theorem Inv.crash (h : M.Inv) (k : Int) : (M.crash k).Inv where
  rise := by
    have := h.rise
    unfold Rises at this ⊢
    exact List.pairwise_map.2 this
  good := by
    intro x hx
    refine h.good x ?_
    unfold names DM.crash at hx
    rwa [nms_map] at hx
  mem := fun w hw => by cases hw
  isL := by
    intro f hf
    obtain ⟨g, hg, rfl⟩ := List.mem_map.1 hf
    exact isB8_append (h.isL g hg) (isB8_left h.isW _ _)
  isW := fun w hw => by cases hw
  fits := Nat.le_trans (used_left M.buf k.toNat M.L) h.fits
  top := h.top
  few := Nat.zero_le _
theorem sync_eq (M : DM) : M.sync = { M.crash (tot M.buf) with off := M.off } := by
  unfold sync DM.crash
  simp only [Int.toNat_natCast, left_all _ _ _ (Nat.le_refl _)]
theorem Inv.sync (h : M.Inv) : M.sync.Inv := by
  rw [sync_eq]
  have := h.crash (tot M.buf)
  exact ⟨this.rise, this.good, this.mem, this.isL, this.isW, this.fits, this.top, this.few⟩
theorem Inv.begun (h : M.Inv) : M.begun.Inv := by
  have few' := h.few
  unfold DM.begun
  split
  · refine Inv.crash (M := { M with ops := M.ops + 1, n := 0 }) ⟨h.rise, h.good, h.mem, h.isL, h.isW, h.fits, h.top, ?_⟩ _
    exact Nat.le_succ_of_le h.few
  · exact ⟨h.rise, h.good, h.mem, h.isL, h.isW, h.fits, h.top, Nat.le_succ_of_le h.few⟩
theorem begun_off (h : M.begins = true) : M.begun.off = M.off ∧ M.begun.L = M.L ∧ M.begun.buf = M.buf ∧ M.begun.blocks = M.blocks ∧ M.begun.ops = M.ops + 1 := by
  unfold begins at h
  have h' := of_decide_eq_true h
  unfold DM.begun
  rw [if_neg h']
  exact ⟨rfl, rfl, rfl, rfl, rfl⟩
theorem begun_ops (M : DM) : M.begun.ops = M.ops + 1 := by unfold DM.begun; split <;> rfl
theorem used_gone (h : M.Inv) {x : ByteArray} (hx : x ∈ M.names) : (M.gone x).used + Go.Proofs.YthlelcmifolnfaaGreatDoor.need (M.bytes x).length = M.used := by
  have h1 := used_one (buf := M.buf) h.nodup hx
  unfold used DM.gone
  dsimp only
  rw [used_congr (b2 := M.buf)]
  · unfold bytes
    rw [List.length_append]
    exact h1
  · intro f hf
    have := (List.mem_filter.1 hf).2
    rw [pend_gone _ _ _ (of_decide_eq_true this)]
theorem gone_none (h : M.Inv) {x : ByteArray} (hx : x ∉ M.names) : M.gone x = M := by
  unfold DM.gone
  have e1 : (M.L.filter fun f => decide (f.1 ≠ x)) = M.L := List.filter_eq_self.2 fun f hf => by
    have : f.1 ≠ x := fun e => hx (by rw [← e]; exact List.mem_map_of_mem hf)
    simpa using this
  have e2 : (M.buf.filter fun w => decide (w.1 ≠ x)) = M.buf := List.filter_eq_self.2 fun w hw => by
    have : w.1 ≠ x := fun e => hx (by rw [← e]; exact h.mem w hw)
    simpa using this
  rw [e1, e2]
theorem names_gone (M : DM) (x y : ByteArray) : y ∈ (M.gone x).names ↔ y ∈ M.names ∧ y ≠ x := nms_filter M.L x y
theorem bytes_gone (M : DM) {x y : ByteArray} (h : y ≠ x) : (M.gone x).bytes y = M.bytes y := by
  unfold bytes DM.gone
  dsimp only
  rw [lk_filter h, pend_gone _ _ _ h]
theorem Inv.gone (h : M.Inv) (x : ByteArray) : (M.gone x).Inv where
  rise := rise_filter h.rise _
  good := fun y hy => h.good y ((names_gone M x y).1 hy).1
  mem := fun w hw => by
    obtain ⟨h1, h2⟩ := List.mem_filter.1 hw
    exact (names_gone M x w.1).2 ⟨h.mem w h1, of_decide_eq_true h2⟩
  isL := fun f hf => h.isL f (List.mem_filter.1 hf).1
  isW := fun w hw => h.isW w (List.mem_filter.1 hw).1
  fits := by
    by_cases hx : x ∈ M.names
    · have := used_gone h hx
      have := h.fits
      show (M.gone x).used ≤ M.blocks
      omega
    · rw [gone_none h hx]; exact h.fits
  top := h.top
  few := Nat.le_trans (List.length_filter_le _ _) h.few
theorem names_put (M : DM) (x y : ByteArray) (b : List Int) : y ∈ (M.put x b).names ↔ y = x ∨ y ∈ M.names := by
  show y ∈ nms (insF x b M.L) ↔ _
  rw [(nms_ins x b M.L).mem_iff, List.mem_cons]
theorem used_put (M : DM) (h : M.Inv) {x : ByteArray} (hx : x ∉ M.names) : (M.put x []).used = M.used + 1 := by
  show usedL M.buf (insF x [] M.L) = _
  rw [used_ins, pend_none fun w hw (e : w.1 = x) => hx (by rw [← e]; exact h.mem w hw)]
  show Go.Proofs.YthlelcmifolnfaaGreatDoor.need 0 + usedL M.buf M.L = usedL M.buf M.L + 1
  unfold Go.Proofs.YthlelcmifolnfaaGreatDoor.need
  omega
theorem Inv.put (h : M.Inv) {x : ByteArray} (hx : x ∉ M.names) (hg : goodN x = true) (hu : M.used < M.blocks) : (M.put x []).Inv where
  rise := insF_rise h.rise hx
  good := fun y hy => by
    rcases (names_put M x y []).1 hy with rfl | hy
    · exact hg
    · exact h.good y hy
  mem := fun w hw => (names_put M x w.1 []).2 (.inr (h.mem w hw))
  isL := fun f hf => by
    rcases List.mem_cons.1 ((insF_perm x [] M.L).mem_iff.1 hf) with rfl | hf
    · exact isB8_nil
    · exact h.isL f hf
  isW := h.isW
  fits := by rw [used_put M h hx]; exact hu
  top := h.top
  few := h.few
theorem Inv.create1 (h : M.Inv) {x : ByteArray} (hg : goodN x = true) : (M.create1 x).2.Inv := by
  unfold DM.create1
  split
  · rename_i hx
    refine (h.gone x).put (fun hm => ((names_gone M x x).1 hm).2 rfl) hg ?_
    have h1 := used_gone h hx
    have h2 := h.fits
    have h3 := need_pos (M.bytes x).length
    show (M.gone x).used < M.blocks
    omega
  · rename_i hx
    split
    · exact h
    · exact h.put hx hg (by omega)
theorem Inv.act (h : M.Inv) {f : DM → Nat × DM} (hf : ∀ N : DM, N.Inv → N.names = M.names → (f N).2.Inv) : (M.act f).2.Inv := by
  unfold DM.act
  split
  · rename_i hb
    refine hf _ h.begun ?_
    unfold names
    rw [(begun_off hb).2.1]
  · exact h.begun
theorem Inv.create (h : M.Inv) (x : ByteArray) : (M.create x).2.Inv := by
  unfold DM.create
  split
  · exact h
  · split
    · exact h
    · rename_i hg
      exact h.act fun N hN _ => hN.create1 (by simpa using hg)
theorem used_append (h : M.Inv) {x : ByteArray} (hx : x ∈ M.names) (b : List Int) : DM.used { M with buf := M.buf ++ [(x, b)] } = M.used + M.more x b := by
  have hn := h.nodup
  have h1 := used_one (buf := M.buf) hn hx
  have h2 := used_one (buf := M.buf ++ [(x, b)]) hn hx
  have h3 : usedL (M.buf ++ [(x, b)]) (M.L.filter fun f => decide (f.1 ≠ x)) = usedL M.buf (M.L.filter fun f => decide (f.1 ≠ x)) := by
    refine used_congr fun f hf => ?_
    have hne : f.1 ≠ x := of_decide_eq_true (List.mem_filter.1 hf).2
    rw [pend_append, pend, if_neg (Ne.symm hne)]
    simp [pend]
  have h4 : (pend (M.buf ++ [(x, b)]) x).length = (pend M.buf x).length + b.length := by
    rw [pend_append, pend, if_pos rfl]; simp [pend]
  unfold used more bytes
  dsimp only
  rw [List.length_append]
  rw [h3, h4] at h2
  have h5 : Go.Proofs.YthlelcmifolnfaaGreatDoor.need ((lk M.L x).length + (pend M.buf x).length) ≤ Go.Proofs.YthlelcmifolnfaaGreatDoor.need ((lk M.L x).length + (pend M.buf x).length + b.length) := need_mono (by omega)
  rw [← Nat.add_assoc] at h2
  omega
theorem Inv.append1 (h : M.Inv) {x : ByteArray} (hx : x ∈ M.names) {b : List Int} (hb : isB8 b) (hf : M.buf.length < M.ops) : (M.append1 x b).2.Inv := by
  unfold DM.append1
  split
  · exact h
  · rename_i hu
    refine ⟨h.rise, h.good, fun w hw => ?_, h.isL, fun w hw => ?_, ?_, h.top, ?_⟩
    · rcases List.mem_append.1 hw with hw | hw
      · exact h.mem w hw
      · rw [List.mem_singleton.1 hw]; exact hx
    · rcases List.mem_append.1 hw with hw | hw
      · exact h.isW w hw
      · rw [List.mem_singleton.1 hw]; exact hb
    · rw [used_append h hx]
      have := h.fits
      show M.used + M.more x b ≤ M.blocks
      omega
    · show (M.buf ++ [(x, b)]).length ≤ M.ops
      rw [List.length_append]
      exact hf
theorem Inv.append (h : M.Inv) (x : ByteArray) {b : List Int} (hb : isB8 b) : (M.append x b).2.Inv := by
  unfold DM.append
  split
  · exact h
  · split
    · exact h
    · rename_i hx
      unfold DM.act
      split
      · rename_i hbe
        obtain ⟨_, e2, e3, _, e5⟩ := begun_off hbe
        refine h.begun.append1 ?_ hb ?_
        · unfold names; rw [e2]; exact Classical.not_not.1 hx
        · rw [e3, e5]; exact Nat.lt_succ_of_le h.few
      · exact h.begun
theorem Inv.syncs (h : M.Inv) : M.syncs.2.Inv := by
  unfold DM.syncs
  split
  · exact h
  · exact h.act fun N hN _ => hN.sync
theorem Inv.remove (h : M.Inv) (x : ByteArray) : (M.remove x).2.Inv := by
  unfold DM.remove
  split
  · exact h
  · split
    · exact h
    · exact h.act fun N hN _ => hN.gone x
theorem names_ren (M : DM) (a b y : ByteArray) : y ∈ (M.ren a b).names ↔ y = b ∨ y ∈ M.names ∧ y ≠ a := by
  show y ∈ nms (insF b _ _) ↔ _
  rw [(nms_ins _ _ _).mem_iff, List.mem_cons, nms_filter]
theorem used_ren (h : M.Inv) {a b : ByteArray} (ha : a ∈ M.names) (hb : b ∉ M.names) : (M.ren a b).used = M.used := by
  have h1 := used_one (buf := M.buf) h.nodup ha
  have hnb : ∀ w ∈ M.buf, w.1 ≠ b := fun w hw e => hb (by rw [← e]; exact h.mem w hw)
  show usedL (renB M.buf a b) (insF b (lk M.L a) _) = usedL M.buf M.L
  rw [used_ins, pend_ren_to hnb, used_congr (b2 := M.buf)]
  · omega
  · intro f hf
    obtain ⟨h2, h3⟩ := List.mem_filter.1 hf
    have h4 : f.1 ≠ a := of_decide_eq_true h3
    have h5 : f.1 ≠ b := fun e => hb (by rw [← e]; exact List.mem_map_of_mem h2)
    rw [pend_ren_other h4 h5]
theorem Inv.ren (h : M.Inv) {a b : ByteArray} (ha : a ∈ M.names) (hb : b ∉ M.names) (hg : goodN b = true) : (M.ren a b).Inv where
  rise := insF_rise (rise_filter h.rise _) fun hm => hb ((nms_filter M.L a b).1 hm).1
  good := fun y hy => by
    rcases (names_ren M a b y).1 hy with rfl | hy
    · exact hg
    · exact h.good y hy.1
  mem := fun w hw => by
    obtain ⟨v, hv, _, hc⟩ := ren_mem hw
    refine (names_ren M a b w.1).2 ?_
    rcases hc with ⟨h1, _⟩ | ⟨h1, h2⟩
    · exact .inl h1
    · exact .inr (by rw [h1]; exact ⟨h.mem v hv, h2⟩)
  isL := fun f hf => by
    rcases List.mem_cons.1 ((insF_perm _ _ _).mem_iff.1 hf) with rfl | hf
    · exact h.isL (a, lk M.L a) (lk_pair ha)
    · exact h.isL f (List.mem_filter.1 hf).1
  isW := fun w hw => by
    obtain ⟨v, hv, e, _⟩ := ren_mem hw
    rw [e]
    exact h.isW v hv
  fits := by rw [used_ren h ha hb]; exact h.fits
  top := h.top
  few := by
    show (renB M.buf a b).length ≤ M.ops
    unfold renB
    rw [List.length_map]
    exact h.few
theorem Inv.rename1 (h : M.Inv) {a b : ByteArray} (ha : a ∈ M.names) (hg : goodN b = true) : (M.rename1 a b).Inv := by
  unfold DM.rename1
  split
  · exact h
  · rename_i hab
    exact (h.gone b).ren ((names_gone M b a).2 ⟨ha, hab⟩) (fun hm => ((names_gone M b b).1 hm).2 rfl) hg
theorem Inv.rename (h : M.Inv) (a b : ByteArray) : (M.rename a b).2.Inv := by
  unfold DM.rename
  split
  · exact h
  · split
    · exact h
    · rename_i hg
      split
      · exact h
      · rename_i ha
        exact h.act fun N hN hn => hN.rename1 (by rw [hn]; exact Classical.not_not.1 ha) (by simpa using hg)
theorem Inv.arm (h : M.Inv) (n k : Int) : (M.arm n k).2.Inv := by
  unfold DM.arm
  split
  · exact h
  · exact ⟨h.rise, h.good, h.mem, h.isL, h.isW, h.fits, h.top, h.few⟩
theorem Inv.start (h : M.Inv) : M.start.Inv := ⟨h.rise, h.good, h.mem, h.isL, h.isW, h.fits, h.top, h.few⟩
theorem inv_empty8 (b : Nat) (hb : b ≤ 16777216) : (DM.empty b).Inv := ⟨List.Pairwise.nil, (fun _ h => by cases h), (fun _ h => by cases h), (fun _ h => by cases h), (fun _ h => by cases h), Nat.zero_le _, hb, Nat.le_refl _⟩
end DM
end Go.Proofs.YthlelcmifolnfaaGreatDoor
