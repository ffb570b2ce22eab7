/-
  Plain mathematics: commands and replies in bytes, and what bytes tell of them.
-/
import Derived.Test.YtnbaoimjcaeeaaaCmA
import Derived.Test.YtnbaoimjcaeeaaaCmP
import Derived.Test.YtnbaoimjcaeeaaaHRowC
namespace Go.Proofs.Ytnbaoimjcaeeaaa
open Go.RowKit

theorem rotL_eq (x : Int) (h0 : 0 ≤ x) (h1 : x < 18446744073709551616) : rotL x = x * 2 % 18446744073709551616 + x / 9223372036854775808 := by
  unfold rotL
  rw [IntKind.wrap_u64, bits_join .u64 64 (by decide) (fun n h0 h1 => by rw [IntKind.wrap_u64]; omega) 1 _ _ (by omega) (by omega) (by omega) (by omega) (by omega) (by omega)]
theorem rotR_eq (x : Int) (h0 : 0 ≤ x) (h1 : x < 18446744073709551616) : rotR x = x % 2 * 9223372036854775808 + x / 2 := by
  unfold rotR
  have e : IntKind.u64.wrap (x * 9223372036854775808) = x % 2 * 9223372036854775808 := by rw [IntKind.wrap_u64]; omega
  rw [e, bits_join .u64 64 (by decide) (fun n h0 h1 => by rw [IntKind.wrap_u64]; omega) 63 _ _ (by omega) (by omega) (by omega) (by omega) (by omega) (by omega)]
theorem rotR_rotL (x : Int) (h0 : 0 ≤ x) (h1 : x < 18446744073709551616) : rotR (rotL x) = x := by
  rw [rotL_eq x h0 h1]
  by_cases h : x < 9223372036854775808
  · have e : x * 2 % 18446744073709551616 + x / 9223372036854775808 = x * 2 := by omega
    rw [e, rotR_eq _ (by omega) (by omega)]
    omega
  · have e : x * 2 % 18446744073709551616 + x / 9223372036854775808 = x * 2 - 18446744073709551616 + 1 := by omega
    rw [e, rotR_eq _ (by omega) (by omega)]
    omega
theorem zag_zig (n : Int) (h0 : -9223372036854775808 ≤ n) (h1 : n ≤ 9223372036854775807) : zagS (zigS n) = n := by
  unfold zagS zigS
  rw [rotR_rotL _ (by rw [IntKind.wrap_u64]; omega) (by rw [IntKind.wrap_u64]; omega), IntKind.wrap_u64]
  unfold wrap64
  omega

/-- An int in bytes. -/
def zigB (n : Int) : List Int := numB (zigS n)
theorem zig_bd (n : Int) : 0 ≤ zigS n ∧ zigS n < 18446744073709551616 := by
  unfold zigS
  rw [rotL_eq _ (by rw [IntKind.wrap_u64]; omega) (by rw [IntKind.wrap_u64]; omega)]
  rw [IntKind.wrap_u64]
  omega
def inI (n : Int) : Prop := -9223372036854775808 ≤ n ∧ n ≤ 9223372036854775807

/-- A command in bytes; a reply in bytes. -/
def cmdB (c : Cmd9) : List Int := zigB c.k ++ zigB c.s ++ zigB c.q ++ zigB c.lim ++ textB c.key ++ textB c.old ++ textB c.val ++ textB c.unt
def repB (r : Rep9) : List Int := zigB r.err ++ zigB r.ses ++ [boolB r.found] ++ textB r.val ++ expB r.l

/-- A reader's int, text, bool, and what is left behind it. -/
def int9 (s : List Int × Bool) : Int × (List Int × Bool) := (zagS (getS s.1).1, loseS s.1 s.2 (getS s.1).2)
def txt9 (s : List Int × Bool) : ByteArray × (List Int × Bool) := (strOfNums (getTextS s.1).1, loseS s.1 s.2 (getTextS s.1).2)
def bool9 (s : List Int × Bool) : Bool × (List Int × Bool) := ((getBoolS s.1).1, loseS s.1 s.2 (getBoolS s.1).2)

theorem int9_back (n : Int) (r : List Int) (h : inI n) : int9 (zigB n ++ r, false) = (n, (r, false)) := by
  unfold int9 zigB
  have hb := zig_bd n
  rw [show ((numB (zigS n) ++ r, false) : List Int × Bool).1 = numB (zigS n) ++ r from rfl, getS_numB _ hb.1 hb.2]
  simp only
  rw [zag_zig n h.1 h.2, ← numB_length, lose_back _ _ (numB_pos _)]
theorem txt9_back (t : ByteArray) (r : List Int) (h : t.size < 18446744073709551616) : txt9 (textB t ++ r, false) = (t, (r, false)) := by
  unfold txt9
  rw [show ((textB t ++ r, false) : List Int × Bool).1 = textB t ++ r from rfl, getText_textB _ _ h]
  simp only
  rw [str_back, lose_back _ _ (textB_pos _)]
theorem bool9_back (b : Bool) (r : List Int) : bool9 (boolB b :: r, false) = (b, (r, false)) := by
  have h := getBoolS_put b r
  have e : boolB b = if b then (84 : Int) else 70 := by cases b <;> rfl
  unfold bool9
  rw [show ((boolB b :: r, false) : List Int × Bool).1 = boolB b :: r from rfl, e, h]
  simp [loseS]

/-- A command off bytes, good or not, and what is left. -/
def rdC9 (xs : List Int) : Cmd9 × (List Int × Bool) :=
  let a0 := int9 (xs, false)
  let a1 := int9 a0.2
  let a2 := int9 a1.2
  let a3 := int9 a2.2
  let a4 := txt9 a3.2
  let a5 := txt9 a4.2
  let a6 := txt9 a5.2
  let a7 := txt9 a6.2
  (⟨a0.1, a1.1, a2.1, a4.1, a5.1, a6.1, a7.1, a3.1⟩, a7.2)
def zeroC9 : Cmd9 := ⟨0, 0, 0, em9, em9, em9, em9, 0⟩
def okC9 (xs : List Int) : Bool := ((rdC9 xs).2.1.isEmpty && !(rdC9 xs).2.2) && good9 (rdC9 xs).1
/-- What Read tells. -/
def readC9 (xs : List Int) : Cmd9 × Int := if okC9 xs then ((rdC9 xs).1, 0) else (zeroC9, 8)

def Short9 (c : Cmd9) : Prop := c.key.size < 18446744073709551616 ∧ c.old.size < 18446744073709551616 ∧ c.val.size < 18446744073709551616 ∧ c.unt.size < 18446744073709551616 ∧ inI c.k ∧ inI c.s ∧ inI c.q ∧ inI c.lim
theorem rdC9_back (c : Cmd9) (h : Short9 c) : rdC9 (cmdB c) = (c, ([], false)) := by
  obtain ⟨h1, h2, h3, h4, h5, h6, h7, h8⟩ := h
  unfold rdC9 cmdB
  simp only [List.append_assoc]
  rw [int9_back _ _ h5]
  simp only
  rw [int9_back _ _ h6]
  simp only
  rw [int9_back _ _ h7]
  simp only
  rw [int9_back _ _ h8]
  simp only
  rw [txt9_back _ _ h1]
  simp only
  rw [txt9_back _ _ h2]
  simp only
  rw [txt9_back _ _ h3]
  simp only
  have := txt9_back c.unt [] h4
  rw [List.append_nil] at this
  rw [this]
theorem readC9_back (c : Cmd9) (h : Short9 c) : readC9 (cmdB c) = if good9 c then (c, 0) else (zeroC9, 8) := by
  unfold readC9 okC9
  rw [rdC9_back c h]
  simp

theorem zigB_le (n : Int) : (zigB n).length ≤ 9 := numB_le _
theorem zigB_isB (n : Int) : IsB (zigB n) := numB_isB _
theorem boolB_isB (b : Bool) : IsB [boolB b] := IsB.cons (by cases b <;> simp [boolB]) IsB.nil
theorem cmdB_isB (c : Cmd9) : IsB (cmdB c) := by
  unfold cmdB
  exact IsB.append (IsB.append (IsB.append (IsB.append (IsB.append (IsB.append (IsB.append (zigB_isB _) (zigB_isB _)) (zigB_isB _)) (zigB_isB _)) (textB_isB _)) (textB_isB _)) (textB_isB _)) (textB_isB _)
theorem repB_isB (r : Rep9) : IsB (repB r) := by
  unfold repB
  exact IsB.append (IsB.append (IsB.append (IsB.append (zigB_isB _) (zigB_isB _)) (boolB_isB _)) (textB_isB _)) (expB_isB _)
theorem cmdB_length (c : Cmd9) : (cmdB c).length ≤ c.key.size + c.old.size + c.val.size + c.unt.size + 72 := by
  unfold cmdB
  simp only [List.length_append]
  have := zigB_le c.k
  have := zigB_le c.s
  have := zigB_le c.q
  have := zigB_le c.lim
  have := textB_length c.key
  have := textB_length c.old
  have := textB_length c.val
  have := textB_length c.unt
  omega

/-- The head of a reply off bytes: error, session, found, value; and what is left. -/
def rdH9 (xs : List Int) : (Int × Int × Bool × ByteArray) × (List Int × Bool) :=
  let a0 := int9 (xs, false)
  let a1 := int9 a0.2
  let a2 := bool9 a1.2
  let a3 := txt9 a2.2
  ((a0.1, a1.1, a2.1, a3.1), a3.2)
/-- The pairs: how many are told, what is left behind that, and they themselves with what is left. -/
def rdK9 (xs : List Int) : Nat := (getS (rdH9 xs).2.1).1.toNat
def rdT9 (xs : List Int) : List Int × Bool := loseS (rdH9 xs).2.1 (rdH9 xs).2.2 (getS (rdH9 xs).2.1).2
def rdP9 (xs : List Int) : List (ByteArray × ByteArray) × (List Int × Bool) := rdN (rdK9 xs) (rdT9 xs)
def repOf9 (h : Int × Int × Bool × ByteArray) (l : List (ByteArray × ByteArray)) : Rep9 := ⟨h.1, h.2.2.1, h.2.2.2, h.2.1, l⟩
def zeroR9 : Rep9 := ⟨0, false, em9, 0, []⟩
def okR9 (xs : List Int) : Bool := (rdP9 xs).2.1.isEmpty && !(rdP9 xs).2.2
/-- What ReadReply tells. -/
def readR9 (xs : List Int) : Rep9 × Int := if okR9 xs then (repOf9 (rdH9 xs).1 (rdP9 xs).1, 0) else (zeroR9, 8)

def ShortR9 (r : Rep9) : Prop := SmallP r.l ∧ r.l.length < 18446744073709551616 ∧ r.val.size < 18446744073709551616 ∧ inI r.err ∧ inI r.ses
theorem rdR9_back (r : Rep9) (z : List Int) (h : ShortR9 r) : rdH9 (repB r ++ z) = ((r.err, r.ses, r.found, r.val), (expB r.l ++ z, false)) ∧ rdP9 (repB r ++ z) = (r.l, (z, false)) := by
  obtain ⟨h1, h2, h3, h4, h5⟩ := h
  have hH : rdH9 (repB r ++ z) = ((r.err, r.ses, r.found, r.val), (expB r.l ++ z, false)) := by
    unfold rdH9 repB
    simp only [List.append_assoc]
    rw [int9_back _ _ h4]
    simp only
    rw [int9_back _ _ h5]
    simp only
    rw [List.singleton_append, bool9_back]
    simp only
    rw [txt9_back _ _ h3]
  refine ⟨hH, ?_⟩
  unfold rdP9 rdK9 rdT9
  rw [hH]
  simp only
  have hg := getS_numB (r.l.length : Int) (by omega) (by omega) (pairsB r.l ++ z)
  rw [← numB_length] at hg
  unfold expB
  rw [List.append_assoc, hg]
  simp only [Int.toNat_natCast]
  rw [lose_back _ _ (numB_pos _)]
  have := rdN_back r.l z h1 r.l.length (Nat.le_refl _)
  rw [List.take_length, List.drop_length] at this
  rw [this]
  simp [pairsB]
theorem readR9_back (r : Rep9) (h : ShortR9 r) : readR9 (repB r) = (r, 0) := by
  have := rdR9_back r [] h
  rw [List.append_nil] at this
  unfold readR9 okR9 repOf9
  rw [this.1, this.2]
  rfl
theorem readR9_more (r : Rep9) (x : Int) (h : ShortR9 r) : readR9 (repB r ++ [x]) = (zeroR9, 8) := by
  have := rdR9_back r [x] h
  unfold readR9 okR9
  rw [this.2]
  rfl
theorem repB_beq (r s : Rep9) (h : ShortR9 r) (k : ShortR9 s) : (repB r == repB s) = sameR9 r s := by
  rw [Bool.eq_iff_iff, sameR9_iff]
  simp only [beq_iff_eq]
  refine ⟨fun e => ?_, fun e => by rw [e]⟩
  have h1 := readR9_back r h
  rw [e, readR9_back s k] at h1
  exact (Prod.mk.inj h1).1.symm

/-- So many pairs take two bytes each, or there was something else. -/
theorem lose_less (xs : List Int) (w : Bool) (k : Nat) (hk : k ≤ xs.length) (h : (loseS xs w k).2 = false) : (loseS xs w k).1.length + 1 ≤ xs.length := by
  unfold loseS at *
  split at h
  · cases h
  · rename_i hk0
    rw [if_neg hk0]
    simp only [List.length_drop]
    omega
theorem pairS_less (s : List Int × Bool) (h : (pairS s).2.2 = false) : (pairS s).2.1.length + 2 ≤ s.1.length := by
  unfold pairS at *
  simp only at *
  have h2 := lose_less _ _ _ (getTextS_bd _).1 h
  have h1 : (loseS s.1 s.2 (getTextS s.1).2).2 = false := by
    cases hw : (loseS s.1 s.2 (getTextS s.1).2).2 with
    | false => rfl
    | true => rw [hw, loseS_wrong] at h; cases h
  have h3 := lose_less _ _ _ (getTextS_bd _).1 h1
  omega
theorem rdN_less (s : List Int × Bool) : ∀ n, (rdN n s).2.2 = false → (rdN n s).2.1.length + 2 * n ≤ s.1.length
  | 0, _ => by simp [rdN]
  | n + 1, h => by
    have h1 : (rdN n s).2.2 = false := by
      cases hw : (rdN n s).2.2 with
      | false => rfl
      | true =>
        have := rdN_wrong s (Nat.le_succ n) hw
        rw [h] at this
        cases this
    have ih := rdN_less s n h1
    rw [rdN] at h ⊢
    simp only at h ⊢
    have := pairS_less _ h
    omega
/-- A count that is too great leads nowhere. -/
theorem rdP9_great (xs : List Int) (h : (rdH9 xs).2.1.length / 2 < rdK9 xs) : okR9 xs = false := by
  unfold okR9
  cases hw : (rdP9 xs).2.2 with
  | true => simp
  | false =>
    exfalso
    unfold rdP9 at hw
    have h1 := rdN_less (rdT9 xs) _ hw
    have h2 : (rdT9 xs).1.length ≤ (rdH9 xs).2.1.length := loseS_length _ _ _
    omega
end Go.Proofs.Ytnbaoimjcaeeaaa
