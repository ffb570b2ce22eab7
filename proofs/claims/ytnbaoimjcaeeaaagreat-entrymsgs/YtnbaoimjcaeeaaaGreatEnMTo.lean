import Derived.Test.YtnbaoimjcaeeaaaGreatCmATo
import Derived.Test.YtnbaoimjcaeeaaaGreatHRowCTo
/-
  Plain mathematics: commands and replies in bytes, and what bytes tell of them.
-/
namespace Go.Proofs.YtnbaoimjcaeeaaaGreat
open Go.RowKit

theorem rotL_eq (x : Int) (h0 : 0 ≤ x) (h1 : x < 18446744073709551616) : rotL x = x * 2 % 18446744073709551616 + x / 9223372036854775808 := by
  unfold rotL
  rw [IntKind.wrap_u64, bits_join .u64 64 (by decide) (fun n h0 h1 => by rw [IntKind.wrap_u64]; omega) 1 _ _ (by omega) (by omega) (by omega) (by omega) (by omega) (by omega)]
theorem rotR_eq (x : Int) (h0 : 0 ≤ x) (h1 : x < 18446744073709551616) : rotR x = x % 2 * 9223372036854775808 + x / 2 := by
  unfold rotR
  have e : IntKind.u64.wrap (x * 9223372036854775808) = x % 2 * 9223372036854775808 := by rw [IntKind.wrap_u64]; omega
  rw [e, bits_join .u64 64 (by decide) (fun n h0 h1 => by rw [IntKind.wrap_u64]; omega) 63 _ _ (by omega) (by omega) (by omega) (by omega) (by omega) (by omega)]
theorem rotR_rotL (x : Int) (h0 : 0 ≤ x) (h1 : x < 18446744073709551616) : rotR (rotL x) = x := by
  rw [rotL_eq x h0 h1]
  by_cases h : x < 9223372036854775808
  · have e : x * 2 % 18446744073709551616 + x / 9223372036854775808 = x * 2 := by omega
    rw [e, rotR_eq _ (by omega) (by omega)]
    omega
  · have e : x * 2 % 18446744073709551616 + x / 9223372036854775808 = x * 2 - 18446744073709551616 + 1 := by omega
    rw [e, rotR_eq _ (by omega) (by omega)]
    omega
theorem zag_zig (n : Int) (h0 : -9223372036854775808 ≤ n) (h1 : n ≤ 9223372036854775807) : zagS (zigS n) = n := by
  unfold zagS zigS
  rw [rotR_rotL _ (by rw [IntKind.wrap_u64]; omega) (by rw [IntKind.wrap_u64]; omega), IntKind.wrap_u64]
  unfold wrap64
  omega

/-- An int in bytes. -/
def zigB (n : Int) : List Int := numB (zigS n)
theorem zig_bd (n : Int) : 0 ≤ zigS n ∧ zigS n < 18446744073709551616 := by
  unfold zigS
  rw [rotL_eq _ (by rw [IntKind.wrap_u64]; omega) (by rw [IntKind.wrap_u64]; omega)]
  rw [IntKind.wrap_u64]
  omega
def inI (n : Int) : Prop := -9223372036854775808 ≤ n ∧ n ≤ 9223372036854775807

/-- A command in bytes; a reply in bytes. -/
def cmdB (c : Cmd9) : List Int := zigB c.k ++ zigB c.s ++ zigB c.q ++ zigB c.lim ++ textB c.key ++ textB c.old ++ textB c.val ++ textB c.unt
def repB (r : Rep9) : List Int := zigB r.err ++ zigB r.ses ++ [boolB r.found] ++ textB r.val ++ expB r.l

/-- A reader's int, text, bool, and what is left behind it. -/
def int9 (s : List Int × Bool) : Int × (List Int × Bool) := (zagS (getS s.1).1, loseS s.1 s.2 (getS s.1).2)
def txt9 (s : List Int × Bool) : ByteArray × (List Int × Bool) := (strOfNums (getTextS s.1).1, loseS s.1 s.2 (getTextS s.1).2)
def bool9 (s : List Int × Bool) : Bool × (List Int × Bool) := ((getBoolS s.1).1, loseS s.1 s.2 (getBoolS s.1).2)

theorem int9_back (n : Int) (r : List Int) (h : inI n) : int9 (zigB n ++ r, false) = (n, (r, false)) := by
  unfold int9 zigB
  have hb := zig_bd n
  rw [show ((numB (zigS n) ++ r, false) : List Int × Bool).1 = numB (zigS n) ++ r from rfl, getS_numB _ hb.1 hb.2]
  simp only
  rw [zag_zig n h.1 h.2, ← numB_length, lose_back _ _ (numB_pos _)]
theorem txt9_back (t : ByteArray) (r : List Int) (h : t.size < 18446744073709551616) : txt9 (textB t ++ r, false) = (t, (r, false)) := by
  unfold txt9
  rw [show ((textB t ++ r, false) : List Int × Bool).1 = textB t ++ r from rfl, getText_textB _ _ h]
  simp only
  rw [str_back, lose_back _ _ (textB_pos _)]
theorem bool9_back (b : Bool) (r : List Int) : bool9 (boolB b :: r, false) = (b, (r, false)) := by
  have h := getBoolS_put b r
  have e : boolB b = if b then (84 : Int) else 70 := by cases b <;> rfl
  unfold bool9
  rw [show ((boolB b :: r, false) : List Int × Bool).1 = boolB b :: r from rfl, e, h]
  simp [loseS]

/-- A command off bytes, good or not, and what is left. -/
def rdC9 (xs : List Int) : Cmd9 × (List Int × Bool) :=
  let a0 := int9 (xs, false)
  let a1 := int9 a0.2
  let a2 := int9 a1.2
  let a3 := int9 a2.2
  let a4 := txt9 a3.2
  let a5 := txt9 a4.2
  let a6 := txt9 a5.2
  let a7 := txt9 a6.2
  (⟨a0.1, a1.1, a2.1, a4.1, a5.1, a6.1, a7.1, a3.1⟩, a7.2)
def zeroC9 : Cmd9 := ⟨0, 0, 0, em9, em9, em9, em9, 0⟩
def okC9 (xs : List Int) : Bool := ((rdC9 xs).2.1.isEmpty && !(rdC9 xs).2.2) && good9 (rdC9 xs).1
/-- What Read tells. -/
def readC9 (xs : List Int) : Cmd9 × Int := if okC9 xs then ((rdC9 xs).1, 0) else (zeroC9, 8)

def Short9 (c : Cmd9) : Prop := c.key.size < 18446744073709551616 ∧ c.old.size < 18446744073709551616 ∧ c.val.size < 18446744073709551616 ∧ c.unt.size < 18446744073709551616 ∧ inI c.k ∧ inI c.s ∧ inI c.q ∧ inI c.lim
theorem rdC9_back (c : Cmd9) (h : Short9 c) : rdC9 (cmdB c) = (c, ([], false)) := by
  obtain ⟨h1, h2, h3, h4, h5, h6, h7, h8⟩ := h
  unfold rdC9 cmdB
  simp only [List.append_assoc]
  rw [int9_back _ _ h5]
  simp only
  rw [int9_back _ _ h6]
  simp only
  rw [int9_back _ _ h7]
  simp only
  rw [int9_back _ _ h8]
  simp only
  rw [txt9_back _ _ h1]
  simp only
  rw [txt9_back _ _ h2]
  simp only
  rw [txt9_back _ _ h3]
  simp only
  have := txt9_back c.unt [] h4
  rw [List.append_nil] at this
  rw [this]
theorem readC9_back (c : Cmd9) (h : Short9 c) : readC9 (cmdB c) = if good9 c then (c, 0) else (zeroC9, 8) := by
  unfold readC9 okC9
  rw [rdC9_back c h]
  simp

theorem zigB_le (n : Int) : (zigB n).length ≤ 9 := numB_le _
theorem zigB_isB (n : Int) : IsB (zigB n) := numB_isB _
theorem boolB_isB (b : Bool) : IsB [boolB b] := IsB.cons (by cases b <;> simp [boolB]) IsB.nil
theorem cmdB_isB (c : Cmd9) : IsB (cmdB c) := by
  unfold cmdB
  exact IsB.append (IsB.append (IsB.append (IsB.append (IsB.append (IsB.append (IsB.append (zigB_isB _) (zigB_isB _)) (zigB_isB _)) (zigB_isB _)) (textB_isB _)) (textB_isB _)) (textB_isB _)) (textB_isB _)
theorem repB_isB (r : Rep9) : IsB (repB r) := by
  unfold repB
  exact IsB.append (IsB.append (IsB.append (IsB.append (zigB_isB _) (zigB_isB _)) (boolB_isB _)) (textB_isB _)) (expB_isB _)
theorem cmdB_length (c : Cmd9) : (cmdB c).length ≤ c.key.size + c.old.size + c.val.size + c.unt.size + 72 := by
  unfold cmdB
  simp only [List.length_append]
  have := zigB_le c.k
  have := zigB_le c.s
  have := zigB_le c.q
  have := zigB_le c.lim
  have := textB_length c.key
  have := textB_length c.old
  have := textB_length c.val
  have := textB_length c.unt
  omega

/-- The head of a reply off bytes: error, session, found, value; and what is left. -/
def rdH9 (xs : List Int) : (Int × Int × Bool × ByteArray) × (List Int × Bool) :=
  let a0 := int9 (xs, false)
  let a1 := int9 a0.2
  let a2 := bool9 a1.2
  let a3 := txt9 a2.2
  ((a0.1, a1.1, a2.1, a3.1), a3.2)
/-- The pairs: how many are told, what is left behind that, and they themselves with what is left. -/
def rdK9 (xs : List Int) : Nat := (getS (rdH9 xs).2.1).1.toNat
def rdT9 (xs : List Int) : List Int × Bool := loseS (rdH9 xs).2.1 (rdH9 xs).2.2 (getS (rdH9 xs).2.1).2
def rdP9 (xs : List Int) : List (ByteArray × ByteArray) × (List Int × Bool) := rdN (rdK9 xs) (rdT9 xs)
def repOf9 (h : Int × Int × Bool × ByteArray) (l : List (ByteArray × ByteArray)) : Rep9 := ⟨h.1, h.2.2.1, h.2.2.2, h.2.1, l⟩
def zeroR9 : Rep9 := ⟨0, false, em9, 0, []⟩
def okR9 (xs : List Int) : Bool := (rdP9 xs).2.1.isEmpty && !(rdP9 xs).2.2
/-- What ReadReply tells. -/
def readR9 (xs : List Int) : Rep9 × Int := if okR9 xs then (repOf9 (rdH9 xs).1 (rdP9 xs).1, 0) else (zeroR9, 8)

def ShortR9 (r : Rep9) : Prop := SmallP r.l ∧ r.l.length < 18446744073709551616 ∧ r.val.size < 18446744073709551616 ∧ inI r.err ∧ inI r.ses
theorem rdR9_back (r : Rep9) (z : List Int) (h : ShortR9 r) : rdH9 (repB r ++ z) = ((r.err, r.ses, r.found, r.val), (expB r.l ++ z, false)) ∧ rdP9 (repB r ++ z) = (r.l, (z, false)) := by
  obtain ⟨h1, h2, h3, h4, h5⟩ := h
  have hH : rdH9 (repB r ++ z) = ((r.err, r.ses, r.found, r.val), (expB r.l ++ z, false)) := by
    unfold rdH9 repB
    simp only [List.append_assoc]
    rw [int9_back _ _ h4]
    simp only
    rw [int9_back _ _ h5]
    simp only
    rw [List.singleton_append, bool9_back]
    simp only
    rw [txt9_back _ _ h3]
  refine ⟨hH, ?_⟩
  unfold rdP9 rdK9 rdT9
  rw [hH]
  simp only
  have hg := getS_numB (r.l.length : Int) (by omega) (by omega) (pairsB r.l ++ z)
  rw [← numB_length] at hg
  unfold expB
  rw [List.append_assoc, hg]
  simp only [Int.toNat_natCast]
  rw [lose_back _ _ (numB_pos _)]
  have := rdN_back r.l z h1 r.l.length (Nat.le_refl _)
  rw [List.take_length, List.drop_length] at this
  rw [this]
  simp [pairsB]
theorem readR9_back (r : Rep9) (h : ShortR9 r) : readR9 (repB r) = (r, 0) := by
  have := rdR9_back r [] h
  rw [List.append_nil] at this
  unfold readR9 okR9 repOf9
  rw [this.1, this.2]
  rfl
theorem readR9_more (r : Rep9) (x : Int) (h : ShortR9 r) : readR9 (repB r ++ [x]) = (zeroR9, 8) := by
  have := rdR9_back r [x] h
  unfold readR9 okR9
  rw [this.2]
  rfl
theorem repB_beq (r s : Rep9) (h : ShortR9 r) (k : ShortR9 s) : (repB r == repB s) = sameR9 r s := by
  rw [Bool.eq_iff_iff, sameR9_iff]
  simp only [beq_iff_eq]
  refine ⟨fun e => ?_, fun e => by rw [e]⟩
  have h1 := readR9_back r h
  rw [e, readR9_back s k] at h1
  exact (Prod.mk.inj h1).1.symm

/-- So many pairs take two bytes each, or there was something else. -/
theorem lose_less (xs : List Int) (w : Bool) (k : Nat) (hk : k ≤ xs.length) (h : (loseS xs w k).2 = false) : (loseS xs w k).1.length + 1 ≤ xs.length := by
  unfold loseS at *
  split at h
  · cases h
  · rename_i hk0
    rw [if_neg hk0]
    simp only [List.length_drop]
    omega
theorem pairS_less (s : List Int × Bool) (h : (pairS s).2.2 = false) : (pairS s).2.1.length + 2 ≤ s.1.length := by
  unfold pairS at *
  simp only at *
  have h2 := lose_less _ _ _ (getTextS_bd _).1 h
  have h1 : (loseS s.1 s.2 (getTextS s.1).2).2 = false := by
    cases hw : (loseS s.1 s.2 (getTextS s.1).2).2 with
    | false => rfl
    | true => rw [hw, loseS_wrong] at h; cases h
  have h3 := lose_less _ _ _ (getTextS_bd _).1 h1
  omega
theorem rdN_less (s : List Int × Bool) : ∀ n, (rdN n s).2.2 = false → (rdN n s).2.1.length + 2 * n ≤ s.1.length
  | 0, _ => by simp [rdN]
  | n + 1, h => by
    have h1 : (rdN n s).2.2 = false := by
      cases hw : (rdN n s).2.2 with
      | false => rfl
      | true =>
        have := rdN_wrong s (Nat.le_succ n) hw
        rw [h] at this
        cases this
    have ih := rdN_less s n h1
    rw [rdN] at h ⊢
    simp only at h ⊢
    have := pairS_less _ h
    omega
/-- A count that is too great leads nowhere. -/
theorem rdP9_great (xs : List Int) (h : (rdH9 xs).2.1.length / 2 < rdK9 xs) : okR9 xs = false := by
  unfold okR9
  cases hw : (rdP9 xs).2.2 with
  | true => simp
  | false =>
    exfalso
    unfold rdP9 at hw
    have h1 := rdN_less (rdT9 xs) _ hw
    have h2 : (rdT9 xs).1.length ≤ (rdH9 xs).2.1.length := loseS_length _ _ _
    omega
end Go.Proofs.YtnbaoimjcaeeaaaGreat

/-
  Plain mathematics of stage 10: members, entries, snapshots and messages, their bytes, and what bytes tell of them.
-/
namespace Go.Proofs.YtnbaoimjcaeeaaaGreat
open Go.RowKit

/-- Members: voters, learners. -/
structure Conf10 where
  vs : List Int
  ls : List Int
structure Ent10 where
  i : Int
  t : Int
  k : Int
  c : Cmd9
  f : Conf10
structure Hard10 where
  t : Int
  v : Int
  c : Int
/-- A snapshot: its data as bytes. -/
structure Snap10 where
  i : Int
  t : Int
  f : Conf10
  d : List Int
structure Msg10 where
  k : Int
  fr : Int
  to : Int
  t : Int
  i : Int
  lt : Int
  cm : Int
  ro : Int
  rej : Bool
  hint : Int
  es : List Ent10
  sn : Snap10

def noF10 : Conf10 := ⟨[], []⟩
def noE10 : Ent10 := ⟨0, 0, 0, zeroC9, noF10⟩
def noS10 : Snap10 := ⟨0, 0, noF10, []⟩
def noM10 : Msg10 := ⟨0, 0, 0, 0, 0, 0, 0, 0, false, 0, [], noS10⟩

/-- Does a list rise, of nodes? -/
def rises10 (l : List Int) : Bool := (List.range l.length).all fun i => decide (1 ≤ l.getD i 0) && decide (l.getD i 0 ≤ 9) && (decide (i = 0) || decide (l.getD (i - 1) 0 < l.getD i 0))
def goodF10 (c : Conf10) : Bool := rises10 c.vs && rises10 c.ls && !c.vs.isEmpty && c.vs.all fun a => c.ls.all fun b => !decide (a = b)
def emptyF10 (c : Conf10) : Bool := c.vs.isEmpty && c.ls.isEmpty
def goodE10 (e : Ent10) : Bool :=
  decide (1 ≤ e.i) && decide (1 ≤ e.t) &&
    (if e.k = 1 then emptyF10 e.f && same9 e.c zeroC9
     else if e.k = 2 then emptyF10 e.f && good9 e.c
     else if e.k = 3 then goodF10 e.f && same9 e.c zeroC9
     else false)
def goodH10 (h : Hard10) : Bool := decide (0 ≤ h.t) && decide (0 ≤ h.v) && decide (0 ≤ h.c)
def goodS10 (s : Snap10) : Bool := decide (1 ≤ s.i) && decide (1 ≤ s.t) && goodF10 s.f && decide (s.d.length ≤ 1048576)
def sameF10 (a b : Conf10) : Bool := decide (a.vs = b.vs) && decide (a.ls = b.ls)
def sameE10 (a b : Ent10) : Bool := decide (a.i = b.i) && decide (a.t = b.t) && decide (a.k = b.k) && same9 a.c b.c && sameF10 a.f b.f
def sameS10 (a b : Snap10) : Bool := decide (a.i = b.i) && decide (a.t = b.t) && sameF10 a.f b.f && decide (a.d = b.d)

/-- Numbers, lists, members, entries, snapshots, messages in bytes. -/
def numsB (l : List Int) : List Int := (l.map zigB).flatten
def listB (l : List Int) : List Int := numB (l.length : Int) ++ numsB l
def confB (c : Conf10) : List Int := listB c.vs ++ listB c.ls
/-- A text of bytes. -/
def bytB (xs : List Int) : List Int := numB (xs.length : Int) ++ xs
def entB (e : Ent10) : List Int := zigB e.i ++ zigB e.t ++ zigB e.k ++ (if e.k = 2 then bytB (cmdB e.c) else []) ++ (if e.k = 3 then confB e.f else [])
def hardB (h : Hard10) : List Int := zigB h.t ++ zigB h.v ++ zigB h.c
def snapB (s : Snap10) : List Int := zigB s.i ++ zigB s.t ++ confB s.f ++ bytB s.d
def entsB (l : List Ent10) : List Int := (l.map entB).flatten
def msgB (m : Msg10) : List Int :=
  zigB m.k ++ zigB m.fr ++ zigB m.to ++ zigB m.t ++ zigB m.i ++ zigB m.lt ++ zigB m.cm ++ zigB m.ro ++ [boolB m.rej] ++ zigB m.hint ++
    (if m.k = 5 then numB (m.es.length : Int) ++ entsB m.es else []) ++ (if m.k = 7 then snapB m.sn else [])

/-- A reader's count, and what is left. -/
def cnt10 (m : Int) (s : List Int × Bool) : Nat × (List Int × Bool) := ((countS m s.1).1.toNat, loseS s.1 s.2 (countS m s.1).2)
def byt10 (s : List Int × Bool) : List Int × (List Int × Bool) := ((getTextS s.1).1, loseS s.1 s.2 (getTextS s.1).2)
def ints10 : Nat → List Int × Bool → List Int × (List Int × Bool)
  | 0, s => ([], s)
  | n + 1, s => ((ints10 n s).1 ++ [(int9 (ints10 n s).2).1], (int9 (ints10 n s).2).2)
def list10 (m : Int) (s : List Int × Bool) : List Int × (List Int × Bool) := ints10 (cnt10 m s).1 (cnt10 m s).2
def conf10 (m : Int) (s : List Int × Bool) : Conf10 × (List Int × Bool) := (⟨(list10 m s).1, (list10 m (list10 m s).2).1⟩, (list10 m (list10 m s).2).2)
abbrev St := List Int × Bool
/-- One reader behind another. -/
def bindR {α β : Type} (f : St → α × St) (g : α → St → β × St) : St → β × St := fun s => g (f s).1 (f s).2
def retR {α : Type} (a : α) : St → α × St := fun s => (a, s)
/-- Wrong, if it does not hold. -/
def holdR (b : Bool) : St → Unit × St := fun s => ((), if b then s else ([], true))
theorem bindR_eq {α β : Type} {f : St → α × St} {g : α → St → β × St} {s s' : St} {a : α} (h : f s = (a, s')) : bindR f g s = g a s' := by
  unfold bindR
  rw [h]
/-- What stands behind an entry's three numbers: a command's bytes are read as a command; where they are none the reader is wrong. -/
def tail10 (m : Int) (i t k : Int) : St → Ent10 × St :=
  if k = 2 then bindR byt10 fun x => bindR (holdR (decide ((readC9 x).2 = 0))) fun _ => retR ⟨i, t, k, (readC9 x).1, noF10⟩
  else if k = 3 then bindR (conf10 m) fun f => retR ⟨i, t, k, zeroC9, f⟩
  else retR ⟨i, t, k, zeroC9, noF10⟩
def ent10 (m : Int) : St → Ent10 × St := bindR int9 fun i => bindR int9 fun t => bindR int9 fun k => tail10 m i t k

theorem numsB_cons (a : Int) (l : List Int) : numsB (a :: l) = zigB a ++ numsB l := by simp [numsB]
theorem numsB_append (l m : List Int) : numsB (l ++ m) = numsB l ++ numsB m := by simp [numsB]
theorem numsB_isB : ∀ l : List Int, IsB (numsB l)
  | [] => IsB.nil
  | a :: l => by rw [numsB_cons]; exact IsB.append (zigB_isB a) (numsB_isB l)
theorem listB_isB (l : List Int) : IsB (listB l) := IsB.append (numB_isB _) (numsB_isB l)
theorem confB_isB (c : Conf10) : IsB (confB c) := IsB.append (listB_isB _) (listB_isB _)
theorem bytB_isB {xs : List Int} (h : IsB xs) : IsB (bytB xs) := IsB.append (numB_isB _) h
theorem entB_isB (e : Ent10) : IsB (entB e) := by
  unfold entB
  refine IsB.append (IsB.append (IsB.append (IsB.append (zigB_isB _) (zigB_isB _)) (zigB_isB _)) ?_) ?_
  · split
    · exact bytB_isB (cmdB_isB _)
    · exact IsB.nil
  · split
    · exact confB_isB _
    · exact IsB.nil
theorem numsB_len : ∀ l : List Int, (numsB l).length ≤ 9 * l.length
  | [] => by simp [numsB]
  | a :: l => by
    have := numsB_len l
    have h2 := zigB_le a
    rw [numsB_cons, List.length_append, List.length_cons]
    omega

/-- Ints that an int holds. -/
def inL (l : List Int) : Prop := ∀ n ∈ l, inI n
theorem ints10_back (l r : List Int) (h : inL l) : ∀ n, n ≤ l.length → ints10 n (numsB l ++ r, false) = (l.take n, (numsB (l.drop n) ++ r, false))
  | 0, _ => by simp [ints10]
  | n + 1, hn => by
    have ih := ints10_back l r h n (by omega)
    have e : l.drop n = l[n] :: l.drop (n + 1) := List.drop_eq_getElem_cons (by omega)
    rw [ints10, ih]
    simp only
    rw [e, numsB_cons, List.append_assoc, int9_back _ _ (h _ (List.getElem_mem _)), List.take_succ_eq_append_getElem (by omega)]
theorem cnt10_back (m : Int) (n : Nat) (r : List Int) (h : (n : Int) ≤ m) (h2 : (n : Int) < 18446744073709551616) : cnt10 m (numB (n : Int) ++ r, false) = (n, (r, false)) := by
  have hg := getS_numB (n : Int) (by omega) h2 r
  rw [← numB_length] at hg
  unfold cnt10 countS
  simp only
  rw [hg, if_neg (by simp only; omega)]
  simp only [Int.toNat_natCast]
  rw [lose_back _ _ (numB_pos _)]
theorem list10_back (m : Int) (l r : List Int) (h : inL l) (hm : (l.length : Int) ≤ m) (h2 : (l.length : Int) < 18446744073709551616) : list10 m (listB l ++ r, false) = (l, (r, false)) := by
  unfold list10 listB
  rw [List.append_assoc, cnt10_back m l.length _ hm h2]
  simp only
  rw [ints10_back l r h l.length (Nat.le_refl _), List.take_length, List.drop_length]
  simp [numsB]
theorem conf10_back (m : Int) (c : Conf10) (r : List Int) (h1 : inL c.vs) (h2 : inL c.ls) (m1 : (c.vs.length : Int) ≤ m) (m2 : (c.ls.length : Int) ≤ m) (hm : m < 18446744073709551616) : conf10 m (confB c ++ r, false) = (c, (r, false)) := by
  unfold conf10 confB
  rw [List.append_assoc, list10_back m c.vs _ h1 m1 (by omega)]
  simp only
  rw [list10_back m c.ls r h2 m2 (by omega)]
theorem byt10_back (xs r : List Int) (h : xs.length < 18446744073709551616) : byt10 (bytB xs ++ r, false) = (xs, (r, false)) := by
  unfold byt10 bytB
  have hg := getTextS_put xs r h
  rw [show ((numB (xs.length : Int) ++ xs ++ r, false) : List Int × Bool).1 = numB (xs.length : Int) ++ xs ++ r from rfl, hg]
  simp only
  have := lose_back (numB (xs.length : Int) ++ xs) r (by rw [List.length_append]; have := numB_pos (xs.length : Int); omega)
  rw [List.length_append] at this
  rw [this]
end Go.Proofs.YtnbaoimjcaeeaaaGreat
