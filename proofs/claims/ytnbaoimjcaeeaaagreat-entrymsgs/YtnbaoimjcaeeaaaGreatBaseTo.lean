import Derived.WalkKit
import Derived.Lib.Bytealg
import Derived.Lib.Strings
import Derived.ProofKit
import Derived.Lib.BitFns
import Derived.Lib.AppendStr
import Derived.Laws.AppendOwnNone
import Derived.Laws.BytesArg
/-
  Plain mathematics: texts in the order of their bytes, pairs that rise, the one list that rises of some pairs, and where a range of it lies. No program is named here.
-/
namespace Go.Proofs.YtnbaoimjcaeeaaaGreat
open Go.RowKit

theorem u8_tri {a b : UInt8} (h1 : ¬ a < b) (h2 : ¬ b < a) : a = b := by
  have h1' : b.toNat ≤ a.toNat := by rw [UInt8.lt_iff_toNat_lt] at h1; omega
  have h2' : a.toNat ≤ b.toNat := by rw [UInt8.lt_iff_toNat_lt] at h2; omega
  exact UInt8.toNat_inj.1 (by omega)
theorem less_irrefl : ∀ x : List UInt8, Op.bytesLess x x = false
  | [] => rfl
  | a :: x => by rw [Op.bytesLess, less_irrefl x]; simp
theorem less_trans : ∀ x y z : List UInt8, Op.bytesLess x y = true → Op.bytesLess y z = true → Op.bytesLess x z = true
  | [], [], _, h, _ => by simp [Op.bytesLess] at h
  | [], _ :: _, [], _, h => by simp [Op.bytesLess] at h
  | [], _ :: _, _ :: _, _, _ => rfl
  | _ :: _, [], _, h, _ => by simp [Op.bytesLess] at h
  | _ :: _, _ :: _, [], _, h => by simp [Op.bytesLess] at h
  | a :: x, b :: y, c :: z, h1, h2 => by
    have ih := less_trans x y z
    simp only [Op.bytesLess, Bool.or_eq_true, Bool.and_eq_true, decide_eq_true_eq, beq_iff_eq] at h1 h2 ⊢
    rcases h1 with h1 | ⟨rfl, h1⟩
    · rcases h2 with h2 | ⟨rfl, h2⟩
      · exact .inl (UInt8.lt_trans h1 h2)
      · exact .inl h1
    · rcases h2 with h2 | ⟨rfl, h2⟩
      · exact .inl h2
      · exact .inr ⟨rfl, ih h1 h2⟩
theorem less_tri : ∀ x y : List UInt8, Op.bytesLess x y = false → Op.bytesLess y x = false → x = y
  | [], [], _, _ => rfl
  | [], _ :: _, h, _ => by simp [Op.bytesLess] at h
  | _ :: _, [], _, h => by simp [Op.bytesLess] at h
  | a :: x, b :: y, h1, h2 => by
    have ih := less_tri x y
    simp only [Op.bytesLess, Bool.or_eq_false_iff, Bool.and_eq_false_imp, decide_eq_false_iff_not, beq_iff_eq] at h1 h2
    obtain rfl : a = b := u8_tri h1.1 h2.1
    rw [ih (h1.2 rfl) (h2.2 rfl)]
theorem compare_less : ∀ x y : List UInt8, Lib.compareBytes x y = if Op.bytesLess x y then -1 else if x = y then 0 else 1
  | [], [] => rfl
  | [], _ :: _ => rfl
  | _ :: _, [] => by simp [Lib.compareBytes, Op.bytesLess]
  | a :: x, b :: y => by
    have ih := compare_less x y
    unfold Lib.compareBytes Op.bytesLess
    by_cases h1 : a < b
    · simp [h1]
    · by_cases h2 : b < a
      · have hne : a ≠ b := by rintro rfl; exact h1 h2
        simp [h1, h2, hne]
      · obtain rfl := u8_tri h1 h2
        simp [ih]

theorem data_inj {a b : ByteArray} (h : a.toList = b.toList) : a = b := by
  rw [Lib.toList_data, Lib.toList_data] at h
  obtain ⟨⟨x⟩⟩ := a
  obtain ⟨⟨y⟩⟩ := b
  cases h
  rfl
theorem toList_beq (a b : ByteArray) : (a.toList == b.toList) = decide (a = b) := by
  by_cases h : a = b
  · subst h; simp
  · have : a.toList ≠ b.toList := fun e => h (data_inj e)
    simp [h, this]

/-- A text ahead of another one, by bytes. -/
def ltT (a b : ByteArray) : Bool := Op.bytesLess a.toList b.toList
theorem ltT_irrefl (a : ByteArray) : ltT a a = false := less_irrefl _
theorem ltT_trans {a b c : ByteArray} (h : ltT a b = true) (k : ltT b c = true) : ltT a c = true := less_trans _ _ _ h k
theorem ltT_tri {a b : ByteArray} (h : ltT a b = false) (k : ltT b a = false) : a = b := data_inj (less_tri _ _ h k)
theorem ltT_asymm {a b : ByteArray} (h : ltT a b = true) : ltT b a = false := by
  cases k : ltT b a with
  | false => rfl
  | true => have := ltT_trans h k; rw [ltT_irrefl] at this; cases this
theorem ltT_ne {a b : ByteArray} (h : ltT a b = true) : a ≠ b := by rintro rfl; rw [ltT_irrefl] at h; cases h
theorem ltT_not_trans {a b c : ByteArray} (h : ltT a b = false) (k : ltT b c = false) : ltT a c = false := by
  cases hac : ltT a c with
  | false => rfl
  | true =>
    cases hba : ltT b a with
    | true => rw [ltT_trans hba hac] at k; cases k
    | false =>
      obtain rfl := ltT_tri h hba
      rw [hac] at k
      cases k
def cmpT (a b : ByteArray) : Int := Lib.compareBytes a.data.toList b.data.toList
theorem cmpT_eq (a b : ByteArray) : cmpT a b = if ltT a b then -1 else if a = b then 0 else 1 := by
  unfold cmpT ltT
  rw [compare_less, ← Lib.toList_data, ← Lib.toList_data]
  by_cases h : a = b
  · subst h; simp
  · have : a.toList ≠ b.toList := fun e => h (data_inj e)
    simp [h, this]
theorem cmpT_neg (a b : ByteArray) : decide (cmpT a b < 0) = ltT a b := by
  rw [cmpT_eq]
  cases ltT a b with
  | true => rfl
  | false => by_cases h : a = b <;> simp [h]

/-- Each key comes behind the one ahead of it. -/
def Rise (l : List (ByteArray × ByteArray)) : Prop := l.Pairwise fun x y => ltT x.1 y.1 = true
theorem Rise.nil : Rise [] := List.Pairwise.nil
theorem rise_one {l1 l2 : List (ByteArray × ByteArray)} (h1 : Rise l1) (h2 : Rise l2) (h : l1.Perm l2) : l1 = l2 :=
  h.eq_of_pairwise (fun a b _ _ h k => by rw [ltT_asymm h] at k; cases k) h1 h2
theorem Rise.nodup {l : List (ByteArray × ByteArray)} (h : Rise l) : (l.map Prod.fst).Nodup := by
  rw [List.nodup_iff_pairwise_ne, List.pairwise_map]
  exact h.imp fun h => ltT_ne h
theorem Rise.take {l : List (ByteArray × ByteArray)} (h : Rise l) (n : Nat) : Rise (l.take n) := List.Pairwise.sublist (List.take_sublist _ _) h
theorem Rise.drop {l : List (ByteArray × ByteArray)} (h : Rise l) (n : Nat) : Rise (l.drop n) := List.Pairwise.sublist (List.drop_sublist _ _) h

/-- Pairs by keys. -/
def srt (l : List (ByteArray × ByteArray)) : List (ByteArray × ByteArray) := l.mergeSort fun x y => !ltT y.1 x.1
theorem srt_perm (l : List (ByteArray × ByteArray)) : (srt l).Perm l := List.mergeSort_perm _ _
theorem srt_rise {l : List (ByteArray × ByteArray)} (h : (l.map Prod.fst).Nodup) : Rise (srt l) := by
  have hs : List.Pairwise (fun x y : ByteArray × ByteArray => (!ltT y.1 x.1) = true) (srt l) := by
    refine List.pairwise_mergeSort ?_ ?_ l
    · intro a b c h1 h2
      simp only [Bool.not_eq_true'] at h1 h2 ⊢
      exact ltT_not_trans h2 h1
    · intro a b
      cases hab : ltT b.1 a.1 with
      | false => rfl
      | true => rw [ltT_asymm hab]; rfl
  have hn : ((srt l).map Prod.fst).Nodup := ((srt_perm l).map _).nodup_iff.2 h
  rw [List.nodup_iff_pairwise_ne, List.pairwise_map] at hn
  refine List.Pairwise.imp₂ ?_ hs hn
  intro a b h1 h2
  simp only [Bool.not_eq_true'] at h1
  cases hab : ltT a.1 b.1 with
  | true => rfl
  | false => exact absurd (ltT_tri hab h1) h2
theorem srt_is {l l' : List (ByteArray × ByteArray)} (hr : Rise l') (h : l'.Perm l) : l' = srt l := by
  have hn : (l.map Prod.fst).Nodup := (h.map _).nodup_iff.1 hr.nodup
  exact rise_one hr (srt_rise hn) (h.trans (srt_perm l).symm)
theorem srt_len (l : List (ByteArray × ByteArray)) : (srt l).length = l.length := (srt_perm l).length_eq
theorem srt_self {l : List (ByteArray × ByteArray)} (hr : Rise l) : srt l = l := (srt_is hr (List.Perm.refl _)).symm

/-- How many pairs stand ahead of a key. -/
def plc (l : List (ByteArray × ByteArray)) (key : ByteArray) : Nat := l.countP fun p => ltT p.1 key
theorem plc_le (l : List (ByteArray × ByteArray)) (key : ByteArray) : plc l key ≤ l.length := List.countP_le_length
theorem plc_split {l : List (ByteArray × ByteArray)} (hr : Rise l) (key : ByteArray) : (∀ p ∈ l.take (plc l key), ltT p.1 key = true) ∧ ∀ p ∈ l.drop (plc l key), ltT p.1 key = false := by
  induction l with
  | nil => exact ⟨(fun p h => by simp at h), fun p h => by simp at h⟩
  | cons a l ih =>
    obtain ⟨h1, h2⟩ := List.pairwise_cons.1 hr
    obtain ⟨i1, i2⟩ := ih h2
    cases ha : ltT a.1 key with
    | true =>
      have e : plc (a :: l) key = plc l key + 1 := by unfold plc; rw [List.countP_cons]; simp [ha]
      rw [e, List.take_succ_cons, List.drop_succ_cons]
      refine ⟨fun p hp => ?_, i2⟩
      rcases List.mem_cons.1 hp with rfl | hp
      · exact ha
      · exact i1 p hp
    | false =>
      have hl : ∀ p ∈ l, ltT p.1 key = false := fun p hp => by
        cases hk : ltT p.1 key with
        | false => rfl
        | true => rw [ltT_trans (h1 p hp) hk] at ha; cases ha
      have e : plc (a :: l) key = 0 := by
        unfold plc
        rw [List.countP_eq_zero]
        intro p hp
        rcases List.mem_cons.1 hp with rfl | hp
        · simp [ha]
        · simp [hl p hp]
      rw [e]
      refine ⟨(fun p h => by simp at h), fun p hp => ?_⟩
      rw [List.drop_zero] at hp
      rcases List.mem_cons.1 hp with rfl | hp
      · exact ha
      · exact hl p hp
/-- The place at which pairs ahead of a key end. -/
theorem plc_is {l : List (ByteArray × ByteArray)} {key : ByteArray} {i : Nat} (hi : i ≤ l.length) (h1 : ∀ p ∈ l.take i, ltT p.1 key = true) (h2 : ∀ p ∈ l.drop i, ltT p.1 key = false) : i = plc l key := by
  have e : plc l key = plc (l.take i) key + plc (l.drop i) key := by
    unfold plc
    rw [← List.countP_append, List.take_append_drop]
  have e1 : plc (l.take i) key = i := by
    unfold plc
    rw [List.countP_eq_length.2 h1, List.length_take]
    omega
  have e2 : plc (l.drop i) key = 0 := by
    unfold plc
    rw [List.countP_eq_zero]
    intro p hp
    simp [h2 p hp]
  omega
theorem filter_from {l : List (ByteArray × ByteArray)} (hr : Rise l) (key : ByteArray) : l.filter (fun p => !ltT p.1 key) = l.drop (plc l key) := by
  obtain ⟨h1, h2⟩ := plc_split hr key
  conv => lhs; rw [← List.take_append_drop (plc l key) l]
  rw [List.filter_append, List.filter_eq_nil_iff.2, List.filter_eq_self.2, List.nil_append]
  · intro p hp; simp [h2 p hp]
  · intro p hp; simp [h1 p hp]
theorem filter_until {l : List (ByteArray × ByteArray)} (hr : Rise l) (key : ByteArray) : l.filter (fun p => ltT p.1 key) = l.take (plc l key) := by
  obtain ⟨h1, h2⟩ := plc_split hr key
  conv => lhs; rw [← List.take_append_drop (plc l key) l]
  have e1 : (l.take (plc l key)).filter (fun p => ltT p.1 key) = l.take (plc l key) := List.filter_eq_self.2 h1
  have e2 : (l.drop (plc l key)).filter (fun p => ltT p.1 key) = [] := List.filter_eq_nil_iff.2 fun p hp => by simp [h2 p hp]
  rw [List.filter_append, e1, e2, List.append_nil]
theorem plc_take {l : List (ByteArray × ByteArray)} (hr : Rise l) (key : ByteArray) (b : Nat) (hb : b ≤ l.length) : plc (l.take b) key = min (plc l key) b := by
  obtain ⟨h1, h2⟩ := plc_split hr key
  refine (plc_is ?_ ?_ ?_).symm
  · rw [List.length_take]; omega
  · intro p hp
    rw [List.take_take] at hp
    refine h1 p ?_
    have hs : l.take (min (min (plc l key) b) b) <+: l.take (plc l key) := by
      rw [List.prefix_take_iff]
      exact ⟨List.take_prefix _ _, by rw [List.length_take]; omega⟩
    exact hs.subset hp
  · intro p hp
    rw [List.drop_take] at hp
    by_cases hab : plc l key ≤ b
    · rw [Nat.min_eq_left hab] at hp
      exact h2 p (List.mem_of_mem_take hp)
    · rw [Nat.min_eq_right (by omega), Nat.sub_self, List.take_zero] at hp
      cases hp

/-- The pairs of a range. -/
def cutL (l : List (ByteArray × ByteArray)) (f u : ByteArray) (n : Int) : List (ByteArray × ByteArray) :=
  (l.filter fun p => !ltT p.1 f && (decide (u = ⟨#[]⟩) || ltT p.1 u)).take n.toNat
/-- Where a range ends. -/
def endP (l : List (ByteArray × ByteArray)) (u : ByteArray) : Nat := if u = ⟨#[]⟩ then l.length else plc l u
theorem endP_le (l : List (ByteArray × ByteArray)) (u : ByteArray) : endP l u ≤ l.length := by
  unfold endP
  split
  · exact Nat.le_refl _
  · exact plc_le _ _
theorem cut_is {l : List (ByteArray × ByteArray)} (hr : Rise l) (f u : ByteArray) (n : Int) : cutL l f u n = ((l.take (endP l u)).drop (plc l f)).take n.toNat := by
  unfold cutL
  congr 1
  have e : (l.filter fun p => !ltT p.1 f && (decide (u = ⟨#[]⟩) || ltT p.1 u)) = (l.take (endP l u)).filter fun p => !ltT p.1 f := by
    by_cases hu : u = ⟨#[]⟩
    · unfold endP
      simp [hu]
    · unfold endP
      rw [if_neg hu, ← filter_until hr, List.filter_filter]
      simp [hu]
  have hb := endP_le l u
  rw [e, filter_from (hr.take _), plc_take hr _ _ hb]
  by_cases hab : plc l f ≤ endP l u
  · rw [Nat.min_eq_left hab]
  · rw [Nat.min_eq_right (by omega), List.drop_take, List.drop_take, Nat.sub_self, show endP l u - plc l f = 0 by omega]
    simp
/-- What the program cuts out. -/
theorem cut_prog {l : List (ByteArray × ByteArray)} (hr : Rise l) (f u : ByteArray) (n : Int) (c : Nat) (hc : (c : Int) = min ((endP l u : Int) - plc l f) n) : (l.drop (plc l f)).take c = cutL l f u n := by
  rw [cut_is hr, List.drop_take, List.take_take]
  congr 1
  omega
theorem cut_none {l : List (ByteArray × ByteArray)} (hr : Rise l) (f u : ByteArray) (n : Int) (hc : min ((endP l u : Int) - plc l f) n < 1) : cutL l f u n = [] := by
  rw [cut_is hr, List.drop_take, List.take_take]
  rw [show min n.toNat (endP l u - plc l f) = 0 by omega]
  simp
end Go.Proofs.YtnbaoimjcaeeaaaGreat

/-
  Byte slices in memory: what a slice of bytes reads as ('Has'), a row of bytes that the call made ('Owns'), and the walk's laws for append, in these words. No program is named here.
-/
namespace Go.Proofs.YtnbaoimjcaeeaaaGreat
open Go.RowKit

def cellsB (xs : List Int) : List Value := xs.map (Value.int .u8)

/-- The value v is a slice that reads as the bytes xs. -/
def Has (w : World) (v : Value) (xs : List Int) : Prop :=
  ∃ p c, v = .slice p xs.length c ∧ xs.length ≤ c ∧ (p = none → c = 0) ∧
    (0 < xs.length → ∃ b o, p = some ⟨b, o, none⟩ ∧ b < w.heap.size ∧ ∀ i, i < xs.length → w.cell? ⟨b, o + i, none⟩ = some (.int .u8 (xs.getD i 0)))

/-- The value v is a slice that the call made, in a row from block B on; it reads as xs. -/
def Owns (w : World) (B : Nat) (e : TypeId) (v : Value) (xs : List Int) : Prop := w.ownsRow B e 1 v xs.length (cellsB xs)

theorem cellsB_length (xs : List Int) : (cellsB xs).length = xs.length := by simp [cellsB]
theorem cellsB_one (xs : List Int) : ∀ u ∈ cellsB xs, u.oneCell' = true := ints_oneCell .u8 xs

theorem Owns.has {w : World} {B : Nat} {e : TypeId} {v : Value} {xs : List Int} (h : Owns w B e v xs) : Has w v xs := by
  rcases h.2 with ⟨rfl, hn⟩ | ⟨g, cap, cur, rfl, hB, hg, hnc, _, _, _⟩
  · exact ⟨none, 0, by rw [hn], by omega, fun _ => rfl, fun h0 => by omega⟩
  · refine ⟨some ⟨g, 0, none⟩, cap, rfl, hnc, (fun h0 => by cases h0), fun _ => ⟨g, 0, rfl, (Array.getElem?_eq_some_iff.1 hg).1, fun i hi => ?_⟩⟩
    have hc := World.ownsRow.cells h (g := g) rfl i (.int .u8 (xs.getD i 0)) (by simp [cellsB, List.getElem?_eq_getElem hi])
    rw [Addr.add_lit] at hc
    exact hc

theorem Owns.nil (w : World) (B : Nat) (e : TypeId) : Owns w B e (.slice none 0 0) [] := World.ownsRow_nil w B e 1

theorem Has.nil (w : World) : Has w (.slice none 0 0) [] := ⟨none, 0, rfl, Nat.le_refl _, fun _ => rfl, fun h => absurd h (Nat.lt_irrefl 0)⟩

theorem Has.below {w w' : World} {B : Nat} {v : Value} {xs : List Int} (h : Has w v xs) (hb : Below B w w') (hB : w.heap.size ≤ B) : Has w' v xs := by
  obtain ⟨p, c, rfl, h1, h2, h3⟩ := h
  refine ⟨p, c, rfl, h1, h2, fun h0 => ?_⟩
  obtain ⟨b, o, rfl, hlt, hc⟩ := h3 h0
  exact ⟨b, o, rfl, Nat.lt_of_lt_of_le hlt hb.size, fun i hi => (hb.cell (p := ⟨b, o + i, none⟩) (by exact Nat.lt_of_lt_of_le hlt hB)).trans (hc i hi)⟩

theorem Owns.below {w w' : World} {B B' : Nat} {e : TypeId} {v : Value} {xs : List Int} (h : Owns w B e v xs) (hb : Below B' w w') (hB : w.heap.size ≤ B') : Owns w' B e v xs := by
  refine ⟨h.1, ?_⟩
  rcases h.2 with hn | ⟨g, cap, cur, rfl, hb1, hg, rest⟩
  · exact .inl hn
  · refine .inr ⟨g, cap, cur, rfl, hb1, ?_, rest⟩
    rw [hb.block g (Nat.lt_of_lt_of_le (Array.getElem?_eq_some_iff.1 hg).1 hB)]
    exact hg

theorem Owns.mono {w : World} {B B' : Nat} {e : TypeId} {v : Value} {xs : List Int} (h : Owns w B e v xs) (hB : B' ≤ B) : Owns w B' e v xs := by
  refine ⟨h.1, ?_⟩
  rcases h.2 with hn | ⟨g, cap, cur, rfl, hb1, rest⟩
  · exact .inl hn
  · exact .inr ⟨g, cap, cur, rfl, Nat.le_trans hB hb1, rest⟩

theorem below_grown {w w' : World} {B : Nat} {e : TypeId} {v : Value} {xs : List Int} (h : Owns w B e v xs) (hB : B ≤ w.heap.size) (hg : w.grownBy w' v.ownBlock) : Below B w w' :=
  (Below.refl _ _).grown hg hB fun k hk => (World.ownsRow.lt h k hk).1

/-- 'append(s, x)' of ONE byte: it has just been laid in a block of its own. -/
theorem ap_one {P : Program} {ops : Array Oper} {rest : List Oper} {o : Oper} {a : Act} {Q : Exit → Act → World → Prop} (w : World) (hgd : o.guard = none) (s x : Operand) (t : TypeId)
    (ho : o.op = .call { callee := .builtin .append, args := #[s, x], argTypes := #[t, t] })
    (B : Nat) (e : TypeId) (i : TypeInfo) (ht : P.underlying t = some (.slice e)) (hi : P.info? e = some i) (hz : i.zero = some (.int .u8 0)) (hsize : i.size = 1) (hby : i.bytes = 1)
    (v : Value) (xs : List Int) (z : Int) (hs : a.eval s = v) (hx : a.eval x = .slice (some ⟨w.heap.size, 0, none⟩) 1 1) (hown : Owns w B e v xs) (hlen : xs.length ≤ 1099511627776) (hB : B ≤ w.heap.size)
    (h : ∀ v' w', Owns w' B e v' (xs ++ [z]) → Below B w w' → wpList P ops Q rest (a.put o.dst v') w') :
    wpList P ops Q (o :: rest) a (w.alloc (.cells #[.int .u8 z] e)) := by
  refine wpList_append_own _ hgd s x t ho B e i (.int .u8 0) 1 1 ht hi hz hsize hby rfl (by decide) v xs.length (cellsB xs) hs (World.ownsRow.alloc hown _) ⟨w.heap.size, 0, none⟩ 1 1 [.int .u8 z] hx rfl ?_ ?_ ?_ ?_ ?_ ?_
  · intro j u hj
    match j, hj with
    | 0, hj => simp at hj; subst hj; simp [Addr.add]
  · intro u hu; simp at hu; subst hu; rfl
  · unfold maxLen; omega
  · omega
  · simp; omega
  · intro v' w' hown' hgrow _
    refine h v' w' ?_ ?_
    · unfold Owns
      simpa [cellsB] using hown'
    · exact ((Below.refl B w).alloc hB _).trans ((Below.refl _ _).grown hgrow (by simp; omega) fun k hk => (World.ownsRow.lt hown k hk).1)

/-- 'append(s, x...)', x any slice of bytes. -/
theorem ap_slice {P : Program} {ops : Array Oper} {rest : List Oper} {o : Oper} {a : Act} {Q : Exit → Act → World → Prop} (w : World) (hgd : o.guard = none) (s x : Operand) (t : TypeId)
    (ho : o.op = .call { callee := .builtin .append, args := #[s, x], argTypes := #[t, t] })
    (B : Nat) (e : TypeId) (i : TypeInfo) (ht : P.underlying t = some (.slice e)) (hi : P.info? e = some i) (hz : i.zero = some (.int .u8 0)) (hsize : i.size = 1) (hby : i.bytes = 1)
    (v : Value) (xs ys : List Int) (hs : a.eval s = v) (hx : Has w (a.eval x) ys) (hown : Owns w B e v xs) (hlen : xs.length ≤ 1099511627776) (hlen2 : ys.length ≤ 1099511627776) (hB : B ≤ w.heap.size)
    (h : ∀ v' w', Owns w' B e v' (xs ++ ys) → Below B w w' → wpList P ops Q rest (a.put o.dst v') w') :
    wpList P ops Q (o :: rest) a w := by
  obtain ⟨p, c, hv, hc, hnone, hcell⟩ := hx
  cases p with
  | none =>
    obtain rfl := hnone rfl
    have hy : ys = [] := List.eq_nil_of_length_eq_zero (by omega)
    subst hy
    refine wpList_append_own_none hgd s x t ho B e i 1 ht hi v xs.length (cellsB xs) hs hown (by simpa using hv) ?_
    refine h v w ?_ (Below.refl _ _)
    simpa using hown
  | some ad =>
    refine wpList_append_own _ hgd s x t ho B e i (.int .u8 0) 1 1 ht hi hz hsize hby rfl (by decide) v xs.length (cellsB xs) hs hown ad ys.length c (cellsB ys) hv (by simp [cellsB]) ?_ (cellsB_one ys) ?_ ?_ hB ?_
    · intro j u hj
      have hjl : j < ys.length := by
        have := (List.getElem?_eq_some_iff.1 hj).1
        simpa [cellsB] using this
      obtain ⟨b, o', hp, _, hcl⟩ := hcell (by omega)
      obtain rfl := Option.some.inj hp
      rw [Addr.add_lit, hcl j hjl]
      simp [cellsB, List.getElem?_eq_getElem hjl] at hj
      subst hj
      simp [List.getElem?_eq_getElem hjl]
    · unfold maxLen; omega
    · omega
    · intro v' w' hown' hgrow _
      refine h v' w' ?_ (below_grown hown hB hgrow)
      unfold Owns
      simpa [cellsB] using hown'

/-- The same, as a step of a region that draws its order. -/
theorem step_slice {P : Program} {ops : Array Oper} {o : Oper} {a : Act} {K : Act → World → Prop} {Q : Exit → Act → World → Prop} {E : Prop} (w : World) (hgd : o.guard = none) (s x : Operand) (t : TypeId)
    (ho : o.op = .call { callee := .builtin .append, args := #[s, x], argTypes := #[t, t] })
    (B : Nat) (e : TypeId) (i : TypeInfo) (ht : P.underlying t = some (.slice e)) (hi : P.info? e = some i) (hz : i.zero = some (.int .u8 0)) (hsize : i.size = 1) (hby : i.bytes = 1)
    (v : Value) (xs ys : List Int) (hs : a.eval s = v) (hx : Has w (a.eval x) ys) (hown : Owns w B e v xs) (hlen : xs.length ≤ 1099511627776) (hlen2 : ys.length ≤ 1099511627776) (hB : B ≤ w.heap.size)
    (h : ∀ v' w', Owns w' B e v' (xs ++ ys) → Below B w w' → K (a.put o.dst v') w') :
    if Region.wanted o (yielded ops a.tmps) = true then Oper.wp P o a w K Q else E := by
  have hw : Region.wanted o (yielded ops a.tmps) = true := by simp [Region.wanted, hgd]
  rw [if_pos hw]
  obtain ⟨p, c, hv, hc, hnone, hcell⟩ := hx
  cases p with
  | none =>
    obtain rfl := hnone rfl
    have hy : ys = [] := List.eq_nil_of_length_eq_zero (by omega)
    subst hy
    have hrun := run_append_owned_none (P := P) w B t o.type e i 1 ht hi v xs.length (cellsB xs) hown
    have hv' : a.eval x = .slice none 0 0 := by simpa using hv
    unfold Oper.wp
    simp [execOp, ho, resolve, invoke, builtin, hs, hv', hrun, Result.andThen]
    exact h v w (by simpa using hown) (Below.refl _ _)
  | some ad =>
    refine wp_append_own w s x t ho B e i (.int .u8 0) 1 1 ht hi hz hsize hby rfl (by decide) v xs.length (cellsB xs) hs hown ad ys.length c (cellsB ys) hv (by simp [cellsB]) ?_ (cellsB_one ys) ?_ ?_ hB ?_
    · intro j u hj
      have hjl : j < ys.length := by
        have := (List.getElem?_eq_some_iff.1 hj).1
        simpa [cellsB] using this
      obtain ⟨b, o', hp, _, hcl⟩ := hcell (by omega)
      obtain rfl := Option.some.inj hp
      rw [Addr.add_lit, hcl j hjl]
      simp [cellsB, List.getElem?_eq_getElem hjl] at hj
      subst hj
      simp [List.getElem?_eq_getElem hjl]
    · unfold maxLen; omega
    · omega
    · intro v' w' hown' hgrow _
      refine h v' w' ?_ (below_grown hown hB hgrow)
      unfold Owns
      simpa [cellsB] using hown'

/-- 'append(s, x...)', x a string. -/
theorem ap_text {P : Program} {ops : Array Oper} {rest : List Oper} {o : Oper} {a : Act} {Q : Exit → Act → World → Prop} (w : World) (hgd : o.guard = none) (s x : Operand) (t u : TypeId)
    (ho : o.op = .call { callee := .builtin .append, args := #[s, x], argTypes := #[t, u] })
    (B : Nat) (e : TypeId) (i : TypeInfo) (ht : P.underlying t = some (.slice e)) (hu : P.underlying u = some .string) (hi : P.info? e = some i) (hz : i.zero = some (.int .u8 0)) (hsize : i.size = 1) (hby : i.bytes = 1)
    (v : Value) (xs : List Int) (str : ByteArray) (hs : a.eval s = v) (hx : a.eval x = .string str) (hown : Owns w B e v xs) (hlen : xs.length ≤ 1099511627776) (hlen2 : str.size ≤ 1099511627776) (hB : B ≤ w.heap.size)
    (h : ∀ v' w', Owns w' B e v' (xs ++ str.data.toList.map fun b => (b.toNat : Int)) → Below B w w' → wpList P ops Q rest (a.put o.dst v') w') :
    wpList P ops Q (o :: rest) a w := by
  refine Lib.wpList_append_own_string _ hgd s x t u ho B e i ht hu hi hz hsize hby v xs.length (cellsB xs) hs hown str hx (by unfold maxLen; omega) (by omega) hB ?_
  intro v' w' hown' hgrow _
  refine h v' w' ?_ (below_grown hown hB hgrow)
  unfold Owns
  have e1 : (xs ++ str.data.toList.map fun b => (b.toNat : Int)).length = xs.length + str.size := by
    rw [List.length_append, List.length_map, Array.length_toList]; rfl
  have e2 : cellsB (xs ++ str.data.toList.map fun b => (b.toNat : Int)) = cellsB xs ++ Lib.strCells str := by simp [cellsB, Lib.strCells]
  rw [e1, e2]
  exact hown'

/-- 'string(b)'. -/
theorem Has.conv {P : Program} {w : World} {v : Value} {xs : List Int} (h : Has w v xs) (src e dst : TypeId) (hs : P.underlying src = some (.slice e)) (he : P.underlying e = some (.int .u8)) (hd : P.underlying dst = some .string) :
    (convert src dst v).run P w = .ok (.string (strOfNums xs)) w := by
  obtain ⟨p, c, rfl, hc, hnone, hcell⟩ := h
  rcases Nat.eq_zero_or_pos xs.length with hn | hn
  · obtain rfl : xs = [] := List.eq_nil_of_length_eq_zero hn
    cases p with
    | none => exact run_convert_bytes_nil w src e hs he _ _ dst hd
    | some a =>
      rw [run_convert_bytes_string w src dst e _ _ c hs he hd]
      simp [Conv.bytesToString, loadCells]
      rfl
  · obtain ⟨b, o, rfl, _, hc⟩ := hcell hn
    exact run_convert_bytes_arg w src e hs he b o _ c xs rfl hc dst hd

/-- A slice of bytes that has just been laid in a block of its own. -/
theorem Has.lit (w : World) (xs : List Int) (e : TypeId) (fr : Nat × Nat := (0, 0)) : Has (w.alloc (.cells (xs.map (Value.int .u8)).toArray e fr)) (.slice (some ⟨w.heap.size, 0, none⟩) xs.length xs.length) xs := by
  refine ⟨_, _, rfl, Nat.le_refl _, (fun h => by cases h), fun _ => ⟨w.heap.size, 0, rfl, by simp, fun i hi => ?_⟩⟩
  rw [Nat.zero_add, cell_of_row _ w.heap.size i _ e fr (heap_alloc_new w _)]
  simp [List.getElem?_eq_getElem hi]

/-- 'b[lo:lo+m]'. -/
theorem Has.cutAt {w : World} {b o c : Nat} {xs : List Int} (h : Has w (.slice (some ⟨b, o, none⟩) xs.length c) xs) (lo m : Nat) (hm : lo + m ≤ xs.length) : Has w (.slice (some ⟨b, o + lo, none⟩) m (c - lo)) ((xs.drop lo).take m) := by
  obtain ⟨p, c', hv, hc, _, hcell⟩ := h
  simp only [Value.slice.injEq] at hv
  obtain ⟨rfl, _, rfl⟩ := hv
  have hlen : ((xs.drop lo).take m).length = m := by simp; omega
  refine ⟨_, _, by rw [hlen], by rw [hlen]; omega, (fun h => by cases h), fun h0 => ?_⟩
  rw [hlen] at h0 ⊢
  obtain ⟨b', o', hp, hlt, hcl⟩ := hcell (by omega)
  simp only [Option.some.injEq, Addr.mk.injEq] at hp
  obtain ⟨rfl, rfl, _⟩ := hp
  refine ⟨b, o + lo, rfl, hlt, fun i hi => ?_⟩
  rw [Nat.add_assoc, hcl (lo + i) (by omega)]
  simp [hi]

theorem Has.takeN {w : World} {p : Option Addr} {c : Nat} {xs : List Int} {n : Nat} (h : Has w (.slice p n c) xs) (j : Nat) (hj : j ≤ xs.length) : Has w (.slice p j c) (xs.take j) := by
  obtain ⟨p', c', hv, hc, hnone, hcell⟩ := h
  simp only [Value.slice.injEq] at hv
  obtain ⟨rfl, _, rfl⟩ := hv
  have hlen : (xs.take j).length = j := by rw [List.length_take]; omega
  refine ⟨p, c, by rw [hlen], by rw [hlen]; omega, hnone, fun h0 => ?_⟩
  rw [hlen] at h0 ⊢
  obtain ⟨b, o, hp, hlt, hcl⟩ := hcell (by omega)
  exact ⟨b, o, hp, hlt, fun i hi => by rw [hcl i (by omega)]; simp [hi]⟩

/-- An empty slice, wherever it points. -/
theorem Has.empty (w : World) (p : Option Addr) (c : Nat) (h : p = none → c = 0) : Has w (.slice p 0 c) [] := ⟨p, c, rfl, Nat.zero_le _, h, fun h0 => absurd h0 (Nat.lt_irrefl 0)⟩

/-- 'T{}', just laid. -/
theorem Owns.empty (w : World) (B : Nat) (e : TypeId) (hB : B ≤ w.heap.size) : Owns (w.alloc (.cells #[] e)) B e (.slice (some ⟨w.heap.size, 0, none⟩) 0 0) [] :=
  World.ownsRow_made w #[] 0 hB (Nat.zero_le _) rfl

/-- A slice of bytes that has just been laid in a block of its own, as a row that the call made. -/
theorem Owns.lit (w : World) (B : Nat) (xs : List Int) (e : TypeId) (hB : B ≤ w.heap.size) (hl : xs.length ≤ 1099511627776) : Owns (w.alloc (.cells (xs.map (Value.int .u8)).toArray e)) B e (.slice (some ⟨w.heap.size, 0, none⟩) xs.length xs.length) xs := by
  refine ⟨by simp [cellsB], .inr ⟨w.heap.size, xs.length, _, rfl, hB, heap_alloc_new w _, Nat.le_refl _, by unfold maxLen; omega, by simp, ?_⟩⟩
  rw [Nat.mul_one]
  exact List.take_of_length_le (by simp)

/-- 'b[j] = z' on a row that the call made. -/
theorem Owns.store {w : World} {B g cap : Nat} {e : TypeId} {xs : List Int} (h : Owns w B e (.slice (some ⟨g, 0, none⟩) xs.length cap) xs) (j : Nat) (z : Int) :
    Owns (w.setCell ⟨g, j, none⟩ (.int .u8 z)) B e (.slice (some ⟨g, 0, none⟩) xs.length cap) (xs.set j z) ∧ w.grownBy (w.setCell ⟨g, j, none⟩ (.int .u8 z)) (some g) := by
  obtain ⟨h1, h2⟩ := World.ownsRow.stored h j (.int .u8 z)
  refine ⟨?_, h2⟩
  unfold Owns
  have e1 : (xs.set j z).length = xs.length := by simp
  have e2 : cellsB (xs.set j z) = (cellsB xs).set j (.int .u8 z) := by simp [cellsB, List.map_set]
  rw [e1, e2]
  exact h1

/-- A row of bytes that holds something, written out. -/
theorem Owns.form {w : World} {B : Nat} {e : TypeId} {v : Value} {xs : List Int} (h : Owns w B e v xs) (h0 : 0 < xs.length) :
    ∃ g cap, v = .slice (some ⟨g, 0, none⟩) xs.length cap ∧ B ≤ g ∧ g < w.heap.size ∧ xs.length ≤ cap ∧ (∀ i, i < xs.length → w.cell? ⟨g, i, none⟩ = some (.int .u8 (xs.getD i 0))) ∧ ∀ j, w.frozen? ⟨g, j, none⟩ = false := by
  rcases h.2 with ⟨_, hn⟩ | ⟨g, cap, cur, rfl, hB, hg, hnc, _, _, _⟩
  · omega
  · refine ⟨g, cap, rfl, hB, (Array.getElem?_eq_some_iff.1 hg).1, hnc, fun i hi => ?_, World.ownsRow.frozenAt h⟩
    rw [World.ownsRow.cellAt h i (by omega)]
    simp [cellsB, List.getElem?_eq_getElem hi]

/-- A callee that leaves the world as it is. -/
theorem same_mono {P : Program} {f : FuncId} {args : Array Value} {w : World} {v : Value} {Q : Ending → World → Prop} (h : Calls P f args w fun e w' => e = .returned v ∧ w' = w) (hQ : Q (.returned v) w) : Calls P f args w Q :=
  h.mono fun e w' h => by obtain ⟨rfl, rfl⟩ := h; exact hQ

end Go.Proofs.YtnbaoimjcaeeaaaGreat
