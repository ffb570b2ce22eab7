/-
  Plain mathematics of stage 10: members, entries, snapshots and messages, their bytes, and what bytes tell of them.
-/
import Derived.Test.YtnbaoimjcaeeaaaCmM
namespace Go.Proofs.Ytnbaoimjcaeeaaa
open Go.RowKit

/-- Members: voters, learners. -/
structure Conf10 where
  vs : List Int
  ls : List Int
structure Ent10 where
  i : Int
  t : Int
  k : Int
  c : Cmd9
  f : Conf10
structure Hard10 where
  t : Int
  v : Int
  c : Int
/-- A snapshot: its data as bytes. -/
structure Snap10 where
  i : Int
  t : Int
  f : Conf10
  d : List Int
structure Msg10 where
  k : Int
  fr : Int
  to : Int
  t : Int
  i : Int
  lt : Int
  cm : Int
  ro : Int
  rej : Bool
  hint : Int
  es : List Ent10
  sn : Snap10

def noF10 : Conf10 := ⟨[], []⟩
def noE10 : Ent10 := ⟨0, 0, 0, zeroC9, noF10⟩
def noS10 : Snap10 := ⟨0, 0, noF10, []⟩
def noM10 : Msg10 := ⟨0, 0, 0, 0, 0, 0, 0, 0, false, 0, [], noS10⟩

/-- Does a list rise, of nodes? -/
def rises10 (l : List Int) : Bool := (List.range l.length).all fun i => decide (1 ≤ l.getD i 0) && decide (l.getD i 0 ≤ 9) && (decide (i = 0) || decide (l.getD (i - 1) 0 < l.getD i 0))
def goodF10 (c : Conf10) : Bool := rises10 c.vs && rises10 c.ls && !c.vs.isEmpty && c.vs.all fun a => c.ls.all fun b => !decide (a = b)
def emptyF10 (c : Conf10) : Bool := c.vs.isEmpty && c.ls.isEmpty
def goodE10 (e : Ent10) : Bool :=
  decide (1 ≤ e.i) && decide (1 ≤ e.t) &&
    (if e.k = 1 then emptyF10 e.f && same9 e.c zeroC9
     else if e.k = 2 then emptyF10 e.f && good9 e.c
     else if e.k = 3 then goodF10 e.f && same9 e.c zeroC9
     else false)
def goodH10 (h : Hard10) : Bool := decide (0 ≤ h.t) && decide (0 ≤ h.v) && decide (0 ≤ h.c)
def goodS10 (s : Snap10) : Bool := decide (1 ≤ s.i) && decide (1 ≤ s.t) && goodF10 s.f && decide (s.d.length ≤ 1048576)
def sameF10 (a b : Conf10) : Bool := decide (a.vs = b.vs) && decide (a.ls = b.ls)
def sameE10 (a b : Ent10) : Bool := decide (a.i = b.i) && decide (a.t = b.t) && decide (a.k = b.k) && same9 a.c b.c && sameF10 a.f b.f
def sameS10 (a b : Snap10) : Bool := decide (a.i = b.i) && decide (a.t = b.t) && sameF10 a.f b.f && decide (a.d = b.d)

/-- Numbers, lists, members, entries, snapshots, messages in bytes. -/
def numsB (l : List Int) : List Int := (l.map zigB).flatten
def listB (l : List Int) : List Int := numB (l.length : Int) ++ numsB l
def confB (c : Conf10) : List Int := listB c.vs ++ listB c.ls
/-- A text of bytes. -/
def bytB (xs : List Int) : List Int := numB (xs.length : Int) ++ xs
def entB (e : Ent10) : List Int := zigB e.i ++ zigB e.t ++ zigB e.k ++ (if e.k = 2 then bytB (cmdB e.c) else []) ++ (if e.k = 3 then confB e.f else [])
def hardB (h : Hard10) : List Int := zigB h.t ++ zigB h.v ++ zigB h.c
def snapB (s : Snap10) : List Int := zigB s.i ++ zigB s.t ++ confB s.f ++ bytB s.d
def entsB (l : List Ent10) : List Int := (l.map entB).flatten
def msgB (m : Msg10) : List Int :=
  zigB m.k ++ zigB m.fr ++ zigB m.to ++ zigB m.t ++ zigB m.i ++ zigB m.lt ++ zigB m.cm ++ zigB m.ro ++ [boolB m.rej] ++ zigB m.hint ++
    (if m.k = 5 then numB (m.es.length : Int) ++ entsB m.es else []) ++ (if m.k = 7 then snapB m.sn else [])

/-- A reader's count, and what is left. -/
def cnt10 (m : Int) (s : List Int × Bool) : Nat × (List Int × Bool) := ((countS m s.1).1.toNat, loseS s.1 s.2 (countS m s.1).2)
def byt10 (s : List Int × Bool) : List Int × (List Int × Bool) := ((getTextS s.1).1, loseS s.1 s.2 (getTextS s.1).2)
def ints10 : Nat → List Int × Bool → List Int × (List Int × Bool)
  | 0, s => ([], s)
  | n + 1, s => ((ints10 n s).1 ++ [(int9 (ints10 n s).2).1], (int9 (ints10 n s).2).2)
def list10 (m : Int) (s : List Int × Bool) : List Int × (List Int × Bool) := ints10 (cnt10 m s).1 (cnt10 m s).2
def conf10 (m : Int) (s : List Int × Bool) : Conf10 × (List Int × Bool) := (⟨(list10 m s).1, (list10 m (list10 m s).2).1⟩, (list10 m (list10 m s).2).2)
abbrev St := List Int × Bool
/-- One reader behind another. -/
def bindR {α β : Type} (f : St → α × St) (g : α → St → β × St) : St → β × St := fun s => g (f s).1 (f s).2
def retR {α : Type} (a : α) : St → α × St := fun s => (a, s)
/-- Wrong, if it does not hold. -/
def holdR (b : Bool) : St → Unit × St := fun s => ((), if b then s else ([], true))
theorem bindR_eq {α β : Type} {f : St → α × St} {g : α → St → β × St} {s s' : St} {a : α} (h : f s = (a, s')) : bindR f g s = g a s' := by
  unfold bindR
  rw [h]
/-- What stands behind an entry's three numbers: a command's bytes are read as a command; where they are none the reader is wrong. -/
def tail10 (m : Int) (i t k : Int) : St → Ent10 × St :=
  if k = 2 then bindR byt10 fun x => bindR (holdR (decide ((readC9 x).2 = 0))) fun _ => retR ⟨i, t, k, (readC9 x).1, noF10⟩
  else if k = 3 then bindR (conf10 m) fun f => retR ⟨i, t, k, zeroC9, f⟩
  else retR ⟨i, t, k, zeroC9, noF10⟩
def ent10 (m : Int) : St → Ent10 × St := bindR int9 fun i => bindR int9 fun t => bindR int9 fun k => tail10 m i t k

theorem numsB_cons (a : Int) (l : List Int) : numsB (a :: l) = zigB a ++ numsB l := by simp [numsB]
theorem numsB_append (l m : List Int) : numsB (l ++ m) = numsB l ++ numsB m := by simp [numsB]
theorem numsB_isB : ∀ l : List Int, IsB (numsB l)
  | [] => IsB.nil
  | a :: l => by rw [numsB_cons]; exact IsB.append (zigB_isB a) (numsB_isB l)
theorem listB_isB (l : List Int) : IsB (listB l) := IsB.append (numB_isB _) (numsB_isB l)
theorem confB_isB (c : Conf10) : IsB (confB c) := IsB.append (listB_isB _) (listB_isB _)
theorem bytB_isB {xs : List Int} (h : IsB xs) : IsB (bytB xs) := IsB.append (numB_isB _) h
theorem entB_isB (e : Ent10) : IsB (entB e) := by
  unfold entB
  refine IsB.append (IsB.append (IsB.append (IsB.append (zigB_isB _) (zigB_isB _)) (zigB_isB _)) ?_) ?_
  · split
    · exact bytB_isB (cmdB_isB _)
    · exact IsB.nil
  · split
    · exact confB_isB _
    · exact IsB.nil
theorem numsB_len : ∀ l : List Int, (numsB l).length ≤ 9 * l.length
  | [] => by simp [numsB]
  | a :: l => by
    have := numsB_len l
    have h2 := zigB_le a
    rw [numsB_cons, List.length_append, List.length_cons]
    omega

/-- Ints that an int holds. -/
def inL (l : List Int) : Prop := ∀ n ∈ l, inI n
theorem ints10_back (l r : List Int) (h : inL l) : ∀ n, n ≤ l.length → ints10 n (numsB l ++ r, false) = (l.take n, (numsB (l.drop n) ++ r, false))
  | 0, _ => by simp [ints10]
  | n + 1, hn => by
    have ih := ints10_back l r h n (by omega)
    have e : l.drop n = l[n] :: l.drop (n + 1) := List.drop_eq_getElem_cons (by omega)
    rw [ints10, ih]
    simp only
    rw [e, numsB_cons, List.append_assoc, int9_back _ _ (h _ (List.getElem_mem _)), List.take_succ_eq_append_getElem (by omega)]
theorem cnt10_back (m : Int) (n : Nat) (r : List Int) (h : (n : Int) ≤ m) (h2 : (n : Int) < 18446744073709551616) : cnt10 m (numB (n : Int) ++ r, false) = (n, (r, false)) := by
  have hg := getS_numB (n : Int) (by omega) h2 r
  rw [← numB_length] at hg
  unfold cnt10 countS
  simp only
  rw [hg, if_neg (by simp only; omega)]
  simp only [Int.toNat_natCast]
  rw [lose_back _ _ (numB_pos _)]
theorem list10_back (m : Int) (l r : List Int) (h : inL l) (hm : (l.length : Int) ≤ m) (h2 : (l.length : Int) < 18446744073709551616) : list10 m (listB l ++ r, false) = (l, (r, false)) := by
  unfold list10 listB
  rw [List.append_assoc, cnt10_back m l.length _ hm h2]
  simp only
  rw [ints10_back l r h l.length (Nat.le_refl _), List.take_length, List.drop_length]
  simp [numsB]
theorem conf10_back (m : Int) (c : Conf10) (r : List Int) (h1 : inL c.vs) (h2 : inL c.ls) (m1 : (c.vs.length : Int) ≤ m) (m2 : (c.ls.length : Int) ≤ m) (hm : m < 18446744073709551616) : conf10 m (confB c ++ r, false) = (c, (r, false)) := by
  unfold conf10 confB
  rw [List.append_assoc, list10_back m c.vs _ h1 m1 (by omega)]
  simp only
  rw [list10_back m c.ls r h2 m2 (by omega)]
theorem byt10_back (xs r : List Int) (h : xs.length < 18446744073709551616) : byt10 (bytB xs ++ r, false) = (xs, (r, false)) := by
  unfold byt10 bytB
  have hg := getTextS_put xs r h
  rw [show ((numB (xs.length : Int) ++ xs ++ r, false) : List Int × Bool).1 = numB (xs.length : Int) ++ xs ++ r from rfl, hg]
  simp only
  have := lose_back (numB (xs.length : Int) ++ xs) r (by rw [List.length_append]; have := numB_pos (xs.length : Int); omega)
  rw [List.length_append] at this
  rw [this]
end Go.Proofs.Ytnbaoimjcaeeaaa
