import Derived.Test.YtkbbhllchombdaaGreatDoorCmA
import Derived.Test.YtkbbhllchombdaaGreatDoorCmPTo
import Derived.ProofKit
import Derived.OpenShut
import Derived.Deep.SlicePairs
import Derived.SizedLaws
import Derived.ChangeSame
namespace Go.Proofs.YtkbbhllchombdaaGreatDoor
open Go.ChangeShapes Go.WideShapes Go.ChangeAt Go.RowKit Go.Deep
section
variable {H : Type} {enc : TypeId × Value → H} {W : World} {spare : Nat → Bool} {held : Bool} {b0 base fuel : Nat}

def Fits9 (c : Cmd9) : Prop := c.key.size ≤ 140737488351232 ∧ c.old.size ≤ 140737488351232 ∧ c.val.size ≤ 140737488351232 ∧ c.unt.size ≤ 140737488351232 ∧
  (-9223372036854775808 ≤ c.k ∧ c.k ≤ 9223372036854775807) ∧ (-9223372036854775808 ≤ c.s ∧ c.s ≤ 9223372036854775807) ∧ (-9223372036854775808 ≤ c.q ∧ c.q ≤ 9223372036854775807) ∧ (-9223372036854775808 ≤ c.lim ∧ c.lim ≤ 9223372036854775807)

end
end Go.Proofs.YtkbbhllchombdaaGreatDoor

namespace Go.Proofs.YtkbbhllchombdaaGreatDoor
open Go.RowKit
theorem rotL_eq (x : Int) (h0 : 0 ≤ x) (h1 : x < 18446744073709551616) : rotL x = x * 2 % 18446744073709551616 + x / 9223372036854775808 := by
  unfold rotL
  rw [IntKind.wrap_u64, bits_join .u64 64 (by decide) (fun n h0 h1 => by rw [IntKind.wrap_u64]; omega) 1 _ _ (by omega) (by omega) (by omega) (by omega) (by omega) (by omega)]
theorem rotR_eq (x : Int) (h0 : 0 ≤ x) (h1 : x < 18446744073709551616) : rotR x = x % 2 * 9223372036854775808 + x / 2 := by
  unfold rotR
  have e : IntKind.u64.wrap (x * 9223372036854775808) = x % 2 * 9223372036854775808 := by rw [IntKind.wrap_u64]; omega
  rw [e, bits_join .u64 64 (by decide) (fun n h0 h1 => by rw [IntKind.wrap_u64]; omega) 63 _ _ (by omega) (by omega) (by omega) (by omega) (by omega) (by omega)]
theorem rotR_rotL (x : Int) (h0 : 0 ≤ x) (h1 : x < 18446744073709551616) : rotR (rotL x) = x := by
  rw [rotL_eq x h0 h1]
  by_cases h : x < 9223372036854775808
  · have e : x * 2 % 18446744073709551616 + x / 9223372036854775808 = x * 2 := by omega
    rw [e, rotR_eq _ (by omega) (by omega)]
    omega
  · have e : x * 2 % 18446744073709551616 + x / 9223372036854775808 = x * 2 - 18446744073709551616 + 1 := by omega
    rw [e, rotR_eq _ (by omega) (by omega)]
    omega
theorem zag_zig (n : Int) (h0 : -9223372036854775808 ≤ n) (h1 : n ≤ 9223372036854775807) : zagS (zigS n) = n := by
  unfold zagS zigS
  rw [rotR_rotL _ (by rw [IntKind.wrap_u64]; omega) (by rw [IntKind.wrap_u64]; omega), IntKind.wrap_u64]
  unfold wrap64
  omega

def zigB (n : Int) : List Int := numB (zigS n)
theorem zig_bd (n : Int) : 0 ≤ zigS n ∧ zigS n < 18446744073709551616 := by
  unfold zigS
  rw [rotL_eq _ (by rw [IntKind.wrap_u64]; omega) (by rw [IntKind.wrap_u64]; omega)]
  rw [IntKind.wrap_u64]
  omega
def inI (n : Int) : Prop := -9223372036854775808 ≤ n ∧ n ≤ 9223372036854775807

def cmdB (c : Cmd9) : List Int := zigB c.k ++ zigB c.s ++ zigB c.q ++ zigB c.lim ++ textB c.key ++ textB c.old ++ textB c.val ++ textB c.unt
def zeroC9 : Cmd9 := ⟨0, 0, 0, em9, em9, em9, em9, 0⟩
theorem zigB_le (n : Int) : (zigB n).length ≤ 9 := numB_le _
theorem zigB_isB (n : Int) : IsB (zigB n) := numB_isB _
theorem cmdB_isB (c : Cmd9) : IsB (cmdB c) := by
  unfold cmdB
  exact IsB.append (IsB.append (IsB.append (IsB.append (IsB.append (IsB.append (IsB.append (zigB_isB _) (zigB_isB _)) (zigB_isB _)) (zigB_isB _)) (textB_isB _)) (textB_isB _)) (textB_isB _)) (textB_isB _)
theorem cmdB_length (c : Cmd9) : (cmdB c).length ≤ c.key.size + c.old.size + c.val.size + c.unt.size + 72 := by
  unfold cmdB
  simp only [List.length_append]
  have := zigB_le c.k
  have := zigB_le c.s
  have := zigB_le c.q
  have := zigB_le c.lim
  have := textB_length c.key
  have := textB_length c.old
  have := textB_length c.val
  have := textB_length c.unt
  omega

structure Conf10 where
  vs : List Int
  ls : List Int
structure Ent10 where
  i : Int
  t : Int
  k : Int
  c : Cmd9
  f : Conf10
structure Hard10 where
  t : Int
  v : Int
  c : Int
structure Snap10 where
  i : Int
  t : Int
  f : Conf10
  d : List Int
def noF10 : Conf10 := ⟨[], []⟩
def noE10 : Ent10 := ⟨0, 0, 0, zeroC9, noF10⟩
def rises10 (l : List Int) : Bool := (List.range l.length).all fun i => decide (1 ≤ l.getD i 0) && decide (l.getD i 0 ≤ 9) && (decide (i = 0) || decide (l.getD (i - 1) 0 < l.getD i 0))
def goodF10 (c : Conf10) : Bool := rises10 c.vs && rises10 c.ls && !c.vs.isEmpty && c.vs.all fun a => c.ls.all fun b => !decide (a = b)
def emptyF10 (c : Conf10) : Bool := c.vs.isEmpty && c.ls.isEmpty
def goodE10 (e : Ent10) : Bool :=
  decide (1 ≤ e.i) && decide (1 ≤ e.t) &&
    (if e.k = 1 then emptyF10 e.f && same9 e.c zeroC9
     else if e.k = 2 then emptyF10 e.f && good9 e.c
     else if e.k = 3 then goodF10 e.f && same9 e.c zeroC9
     else false)
def goodH10 (h : Hard10) : Bool := decide (0 ≤ h.t) && decide (0 ≤ h.v) && decide (0 ≤ h.c)
def sameF10 (a b : Conf10) : Bool := decide (a.vs = b.vs) && decide (a.ls = b.ls)
def sameE10 (a b : Ent10) : Bool := decide (a.i = b.i) && decide (a.t = b.t) && decide (a.k = b.k) && same9 a.c b.c && sameF10 a.f b.f
def sameS10 (a b : Snap10) : Bool := decide (a.i = b.i) && decide (a.t = b.t) && sameF10 a.f b.f && decide (a.d = b.d)

def numsB (l : List Int) : List Int := (l.map zigB).flatten
def listB (l : List Int) : List Int := numB (l.length : Int) ++ numsB l
def confB (c : Conf10) : List Int := listB c.vs ++ listB c.ls
def bytB (xs : List Int) : List Int := numB (xs.length : Int) ++ xs
def entB (e : Ent10) : List Int := zigB e.i ++ zigB e.t ++ zigB e.k ++ (if e.k = 2 then bytB (cmdB e.c) else []) ++ (if e.k = 3 then confB e.f else [])
def hardB (h : Hard10) : List Int := zigB h.t ++ zigB h.v ++ zigB h.c
theorem numsB_cons (a : Int) (l : List Int) : numsB (a :: l) = zigB a ++ numsB l := by simp [numsB]
theorem numsB_append (l m : List Int) : numsB (l ++ m) = numsB l ++ numsB m := by simp [numsB]
theorem numsB_isB : ∀ l : List Int, IsB (numsB l)
  | [] => IsB.nil
  | a :: l => by rw [numsB_cons]; exact IsB.append (zigB_isB a) (numsB_isB l)
theorem listB_isB (l : List Int) : IsB (listB l) := IsB.append (numB_isB _) (numsB_isB l)
theorem confB_isB (c : Conf10) : IsB (confB c) := IsB.append (listB_isB _) (listB_isB _)
theorem bytB_isB {xs : List Int} (h : IsB xs) : IsB (bytB xs) := IsB.append (numB_isB _) h
theorem entB_isB (e : Ent10) : IsB (entB e) := by
  unfold entB
  refine IsB.append (IsB.append (IsB.append (IsB.append (zigB_isB _) (zigB_isB _)) (zigB_isB _)) ?_) ?_
  · split
    · exact bytB_isB (cmdB_isB _)
    · exact IsB.nil
  · split
    · exact confB_isB _
    · exact IsB.nil
theorem numsB_len : ∀ l : List Int, (numsB l).length ≤ 9 * l.length
  | [] => by simp [numsB]
  | a :: l => by
    have := numsB_len l
    have h2 := zigB_le a
    rw [numsB_cons, List.length_append, List.length_cons]
    omega

def inL (l : List Int) : Prop := ∀ n ∈ l, inI n
theorem same9_iff (a b : Cmd9) : same9 a b = true ↔ a = b := by
  obtain ⟨k, s, q, key, old, val, unt, lim⟩ := a
  obtain ⟨k', s', q', key', old', val', unt', lim'⟩ := b
  simp [same9, and_assoc]
theorem sameF10_iff (a b : Conf10) : sameF10 a b = true ↔ a = b := by
  obtain ⟨v, l⟩ := a
  obtain ⟨v', l'⟩ := b
  simp [sameF10]
theorem sameS10_iff (a b : Snap10) : sameS10 a b = true ↔ a = b := by
  obtain ⟨i, t, f, d⟩ := a
  obtain ⟨i', t', f', d'⟩ := b
  simp [sameS10, sameF10_iff, and_assoc]
theorem sameE10_iff (a b : Ent10) : sameE10 a b = true ↔ a = b := by
  obtain ⟨i, t, k, c, f⟩ := a
  obtain ⟨i', t', k', c', f'⟩ := b
  simp [sameE10, sameF10_iff, same9_iff, and_assoc]
end Go.Proofs.YtkbbhllchombdaaGreatDoor
