/-
  Plain mathematics: texts in the order of their bytes, pairs that rise, the one list that rises of some pairs, and where a range of it lies. No program is named here.
-/
import Derived.WalkKit
import Derived.Lib.Bytealg
import Derived.Lib.Strings
namespace Go.Proofs.Ytnbaoimjcaeeaaa
open Go.RowKit

theorem u8_tri {a b : UInt8} (h1 : ¬ a < b) (h2 : ¬ b < a) : a = b := by
  have h1' : b.toNat ≤ a.toNat := by rw [UInt8.lt_iff_toNat_lt] at h1; omega
  have h2' : a.toNat ≤ b.toNat := by rw [UInt8.lt_iff_toNat_lt] at h2; omega
  exact UInt8.toNat_inj.1 (by omega)
theorem less_irrefl : ∀ x : List UInt8, Op.bytesLess x x = false
  | [] => rfl
  | a :: x => by rw [Op.bytesLess, less_irrefl x]; simp
theorem less_trans : ∀ x y z : List UInt8, Op.bytesLess x y = true → Op.bytesLess y z = true → Op.bytesLess x z = true
  | [], [], _, h, _ => by simp [Op.bytesLess] at h
  | [], _ :: _, [], _, h => by simp [Op.bytesLess] at h
  | [], _ :: _, _ :: _, _, _ => rfl
  | _ :: _, [], _, h, _ => by simp [Op.bytesLess] at h
  | _ :: _, _ :: _, [], _, h => by simp [Op.bytesLess] at h
  | a :: x, b :: y, c :: z, h1, h2 => by
    have ih := less_trans x y z
    simp only [Op.bytesLess, Bool.or_eq_true, Bool.and_eq_true, decide_eq_true_eq, beq_iff_eq] at h1 h2 ⊢
    rcases h1 with h1 | ⟨rfl, h1⟩
    · rcases h2 with h2 | ⟨rfl, h2⟩
      · exact .inl (UInt8.lt_trans h1 h2)
      · exact .inl h1
    · rcases h2 with h2 | ⟨rfl, h2⟩
      · exact .inl h2
      · exact .inr ⟨rfl, ih h1 h2⟩
theorem less_tri : ∀ x y : List UInt8, Op.bytesLess x y = false → Op.bytesLess y x = false → x = y
  | [], [], _, _ => rfl
  | [], _ :: _, h, _ => by simp [Op.bytesLess] at h
  | _ :: _, [], _, h => by simp [Op.bytesLess] at h
  | a :: x, b :: y, h1, h2 => by
    have ih := less_tri x y
    simp only [Op.bytesLess, Bool.or_eq_false_iff, Bool.and_eq_false_imp, decide_eq_false_iff_not, beq_iff_eq] at h1 h2
    obtain rfl : a = b := u8_tri h1.1 h2.1
    rw [ih (h1.2 rfl) (h2.2 rfl)]
theorem compare_less : ∀ x y : List UInt8, Lib.compareBytes x y = if Op.bytesLess x y then -1 else if x = y then 0 else 1
  | [], [] => rfl
  | [], _ :: _ => rfl
  | _ :: _, [] => by simp [Lib.compareBytes, Op.bytesLess]
  | a :: x, b :: y => by
    have ih := compare_less x y
    unfold Lib.compareBytes Op.bytesLess
    by_cases h1 : a < b
    · simp [h1]
    · by_cases h2 : b < a
      · have hne : a ≠ b := by rintro rfl; exact h1 h2
        simp [h1, h2, hne]
      · obtain rfl := u8_tri h1 h2
        simp [ih]

theorem data_inj {a b : ByteArray} (h : a.toList = b.toList) : a = b := by
  rw [Lib.toList_data, Lib.toList_data] at h
  obtain ⟨⟨x⟩⟩ := a
  obtain ⟨⟨y⟩⟩ := b
  cases h
  rfl
theorem toList_beq (a b : ByteArray) : (a.toList == b.toList) = decide (a = b) := by
  by_cases h : a = b
  · subst h; simp
  · have : a.toList ≠ b.toList := fun e => h (data_inj e)
    simp [h, this]

/-- A text ahead of another one, by bytes. -/
def ltT (a b : ByteArray) : Bool := Op.bytesLess a.toList b.toList
theorem ltT_irrefl (a : ByteArray) : ltT a a = false := less_irrefl _
theorem ltT_trans {a b c : ByteArray} (h : ltT a b = true) (k : ltT b c = true) : ltT a c = true := less_trans _ _ _ h k
theorem ltT_tri {a b : ByteArray} (h : ltT a b = false) (k : ltT b a = false) : a = b := data_inj (less_tri _ _ h k)
theorem ltT_asymm {a b : ByteArray} (h : ltT a b = true) : ltT b a = false := by
  cases k : ltT b a with
  | false => rfl
  | true => have := ltT_trans h k; rw [ltT_irrefl] at this; cases this
theorem ltT_ne {a b : ByteArray} (h : ltT a b = true) : a ≠ b := by rintro rfl; rw [ltT_irrefl] at h; cases h
theorem ltT_not_trans {a b c : ByteArray} (h : ltT a b = false) (k : ltT b c = false) : ltT a c = false := by
  cases hac : ltT a c with
  | false => rfl
  | true =>
    cases hba : ltT b a with
    | true => rw [ltT_trans hba hac] at k; cases k
    | false =>
      obtain rfl := ltT_tri h hba
      rw [hac] at k
      cases k
def cmpT (a b : ByteArray) : Int := Lib.compareBytes a.data.toList b.data.toList
theorem cmpT_eq (a b : ByteArray) : cmpT a b = if ltT a b then -1 else if a = b then 0 else 1 := by
  unfold cmpT ltT
  rw [compare_less, ← Lib.toList_data, ← Lib.toList_data]
  by_cases h : a = b
  · subst h; simp
  · have : a.toList ≠ b.toList := fun e => h (data_inj e)
    simp [h, this]
theorem cmpT_neg (a b : ByteArray) : decide (cmpT a b < 0) = ltT a b := by
  rw [cmpT_eq]
  cases ltT a b with
  | true => rfl
  | false => by_cases h : a = b <;> simp [h]

/-- Each key comes behind the one ahead of it. -/
def Rise (l : List (ByteArray × ByteArray)) : Prop := l.Pairwise fun x y => ltT x.1 y.1 = true
theorem Rise.nil : Rise [] := List.Pairwise.nil
theorem rise_one {l1 l2 : List (ByteArray × ByteArray)} (h1 : Rise l1) (h2 : Rise l2) (h : l1.Perm l2) : l1 = l2 :=
  h.eq_of_pairwise (fun a b _ _ h k => by rw [ltT_asymm h] at k; cases k) h1 h2
theorem Rise.nodup {l : List (ByteArray × ByteArray)} (h : Rise l) : (l.map Prod.fst).Nodup := by
  rw [List.nodup_iff_pairwise_ne, List.pairwise_map]
  exact h.imp fun h => ltT_ne h
theorem Rise.take {l : List (ByteArray × ByteArray)} (h : Rise l) (n : Nat) : Rise (l.take n) := List.Pairwise.sublist (List.take_sublist _ _) h
theorem Rise.drop {l : List (ByteArray × ByteArray)} (h : Rise l) (n : Nat) : Rise (l.drop n) := List.Pairwise.sublist (List.drop_sublist _ _) h

/-- Pairs by keys. -/
def srt (l : List (ByteArray × ByteArray)) : List (ByteArray × ByteArray) := l.mergeSort fun x y => !ltT y.1 x.1
theorem srt_perm (l : List (ByteArray × ByteArray)) : (srt l).Perm l := List.mergeSort_perm _ _
theorem srt_rise {l : List (ByteArray × ByteArray)} (h : (l.map Prod.fst).Nodup) : Rise (srt l) := by
  have hs : List.Pairwise (fun x y : ByteArray × ByteArray => (!ltT y.1 x.1) = true) (srt l) := by
    refine List.pairwise_mergeSort ?_ ?_ l
    · intro a b c h1 h2
      simp only [Bool.not_eq_true'] at h1 h2 ⊢
      exact ltT_not_trans h2 h1
    · intro a b
      cases hab : ltT b.1 a.1 with
      | false => rfl
      | true => rw [ltT_asymm hab]; rfl
  have hn : ((srt l).map Prod.fst).Nodup := ((srt_perm l).map _).nodup_iff.2 h
  rw [List.nodup_iff_pairwise_ne, List.pairwise_map] at hn
  refine List.Pairwise.imp₂ ?_ hs hn
  intro a b h1 h2
  simp only [Bool.not_eq_true'] at h1
  cases hab : ltT a.1 b.1 with
  | true => rfl
  | false => exact absurd (ltT_tri hab h1) h2
theorem srt_is {l l' : List (ByteArray × ByteArray)} (hr : Rise l') (h : l'.Perm l) : l' = srt l := by
  have hn : (l.map Prod.fst).Nodup := (h.map _).nodup_iff.1 hr.nodup
  exact rise_one hr (srt_rise hn) (h.trans (srt_perm l).symm)
theorem srt_len (l : List (ByteArray × ByteArray)) : (srt l).length = l.length := (srt_perm l).length_eq
theorem srt_self {l : List (ByteArray × ByteArray)} (hr : Rise l) : srt l = l := (srt_is hr (List.Perm.refl _)).symm

/-- How many pairs stand ahead of a key. -/
def plc (l : List (ByteArray × ByteArray)) (key : ByteArray) : Nat := l.countP fun p => ltT p.1 key
theorem plc_le (l : List (ByteArray × ByteArray)) (key : ByteArray) : plc l key ≤ l.length := List.countP_le_length
theorem plc_split {l : List (ByteArray × ByteArray)} (hr : Rise l) (key : ByteArray) : (∀ p ∈ l.take (plc l key), ltT p.1 key = true) ∧ ∀ p ∈ l.drop (plc l key), ltT p.1 key = false := by
  induction l with
  | nil => exact ⟨(fun p h => by simp at h), fun p h => by simp at h⟩
  | cons a l ih =>
    obtain ⟨h1, h2⟩ := List.pairwise_cons.1 hr
    obtain ⟨i1, i2⟩ := ih h2
    cases ha : ltT a.1 key with
    | true =>
      have e : plc (a :: l) key = plc l key + 1 := by unfold plc; rw [List.countP_cons]; simp [ha]
      rw [e, List.take_succ_cons, List.drop_succ_cons]
      refine ⟨fun p hp => ?_, i2⟩
      rcases List.mem_cons.1 hp with rfl | hp
      · exact ha
      · exact i1 p hp
    | false =>
      have hl : ∀ p ∈ l, ltT p.1 key = false := fun p hp => by
        cases hk : ltT p.1 key with
        | false => rfl
        | true => rw [ltT_trans (h1 p hp) hk] at ha; cases ha
      have e : plc (a :: l) key = 0 := by
        unfold plc
        rw [List.countP_eq_zero]
        intro p hp
        rcases List.mem_cons.1 hp with rfl | hp
        · simp [ha]
        · simp [hl p hp]
      rw [e]
      refine ⟨(fun p h => by simp at h), fun p hp => ?_⟩
      rw [List.drop_zero] at hp
      rcases List.mem_cons.1 hp with rfl | hp
      · exact ha
      · exact hl p hp
/-- The place at which pairs ahead of a key end. -/
theorem plc_is {l : List (ByteArray × ByteArray)} {key : ByteArray} {i : Nat} (hi : i ≤ l.length) (h1 : ∀ p ∈ l.take i, ltT p.1 key = true) (h2 : ∀ p ∈ l.drop i, ltT p.1 key = false) : i = plc l key := by
  have e : plc l key = plc (l.take i) key + plc (l.drop i) key := by
    unfold plc
    rw [← List.countP_append, List.take_append_drop]
  have e1 : plc (l.take i) key = i := by
    unfold plc
    rw [List.countP_eq_length.2 h1, List.length_take]
    omega
  have e2 : plc (l.drop i) key = 0 := by
    unfold plc
    rw [List.countP_eq_zero]
    intro p hp
    simp [h2 p hp]
  omega
theorem filter_from {l : List (ByteArray × ByteArray)} (hr : Rise l) (key : ByteArray) : l.filter (fun p => !ltT p.1 key) = l.drop (plc l key) := by
  obtain ⟨h1, h2⟩ := plc_split hr key
  conv => lhs; rw [← List.take_append_drop (plc l key) l]
  rw [List.filter_append, List.filter_eq_nil_iff.2, List.filter_eq_self.2, List.nil_append]
  · intro p hp; simp [h2 p hp]
  · intro p hp; simp [h1 p hp]
theorem filter_until {l : List (ByteArray × ByteArray)} (hr : Rise l) (key : ByteArray) : l.filter (fun p => ltT p.1 key) = l.take (plc l key) := by
  obtain ⟨h1, h2⟩ := plc_split hr key
  conv => lhs; rw [← List.take_append_drop (plc l key) l]
  have e1 : (l.take (plc l key)).filter (fun p => ltT p.1 key) = l.take (plc l key) := List.filter_eq_self.2 h1
  have e2 : (l.drop (plc l key)).filter (fun p => ltT p.1 key) = [] := List.filter_eq_nil_iff.2 fun p hp => by simp [h2 p hp]
  rw [List.filter_append, e1, e2, List.append_nil]
theorem plc_take {l : List (ByteArray × ByteArray)} (hr : Rise l) (key : ByteArray) (b : Nat) (hb : b ≤ l.length) : plc (l.take b) key = min (plc l key) b := by
  obtain ⟨h1, h2⟩ := plc_split hr key
  refine (plc_is ?_ ?_ ?_).symm
  · rw [List.length_take]; omega
  · intro p hp
    rw [List.take_take] at hp
    refine h1 p ?_
    have hs : l.take (min (min (plc l key) b) b) <+: l.take (plc l key) := by
      rw [List.prefix_take_iff]
      exact ⟨List.take_prefix _ _, by rw [List.length_take]; omega⟩
    exact hs.subset hp
  · intro p hp
    rw [List.drop_take] at hp
    by_cases hab : plc l key ≤ b
    · rw [Nat.min_eq_left hab] at hp
      exact h2 p (List.mem_of_mem_take hp)
    · rw [Nat.min_eq_right (by omega), Nat.sub_self, List.take_zero] at hp
      cases hp

/-- The pairs of a range. -/
def cutL (l : List (ByteArray × ByteArray)) (f u : ByteArray) (n : Int) : List (ByteArray × ByteArray) :=
  (l.filter fun p => !ltT p.1 f && (decide (u = ⟨#[]⟩) || ltT p.1 u)).take n.toNat
/-- Where a range ends. -/
def endP (l : List (ByteArray × ByteArray)) (u : ByteArray) : Nat := if u = ⟨#[]⟩ then l.length else plc l u
theorem endP_le (l : List (ByteArray × ByteArray)) (u : ByteArray) : endP l u ≤ l.length := by
  unfold endP
  split
  · exact Nat.le_refl _
  · exact plc_le _ _
theorem cut_is {l : List (ByteArray × ByteArray)} (hr : Rise l) (f u : ByteArray) (n : Int) : cutL l f u n = ((l.take (endP l u)).drop (plc l f)).take n.toNat := by
  unfold cutL
  congr 1
  have e : (l.filter fun p => !ltT p.1 f && (decide (u = ⟨#[]⟩) || ltT p.1 u)) = (l.take (endP l u)).filter fun p => !ltT p.1 f := by
    by_cases hu : u = ⟨#[]⟩
    · unfold endP
      simp [hu]
    · unfold endP
      rw [if_neg hu, ← filter_until hr, List.filter_filter]
      simp [hu]
  have hb := endP_le l u
  rw [e, filter_from (hr.take _), plc_take hr _ _ hb]
  by_cases hab : plc l f ≤ endP l u
  · rw [Nat.min_eq_left hab]
  · rw [Nat.min_eq_right (by omega), List.drop_take, List.drop_take, Nat.sub_self, show endP l u - plc l f = 0 by omega]
    simp
/-- What the program cuts out. -/
theorem cut_prog {l : List (ByteArray × ByteArray)} (hr : Rise l) (f u : ByteArray) (n : Int) (c : Nat) (hc : (c : Int) = min ((endP l u : Int) - plc l f) n) : (l.drop (plc l f)).take c = cutL l f u n := by
  rw [cut_is hr, List.drop_take, List.take_take]
  congr 1
  omega
theorem cut_none {l : List (ByteArray × ByteArray)} (hr : Rise l) (f u : ByteArray) (n : Int) (hc : min ((endP l u : Int) - plc l f) n < 1) : cutL l f u n = [] := by
  rw [cut_is hr, List.drop_take, List.take_take]
  rw [show min n.toNat (endP l u - plc l f) = 0 by omega]
  simp
end Go.Proofs.Ytnbaoimjcaeeaaa
