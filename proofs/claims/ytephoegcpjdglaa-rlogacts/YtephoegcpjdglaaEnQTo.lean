import Derived.Test.YtephoegcpjdglaaCmA
import Derived.Test.YtephoegcpjdglaaCmP
import Derived.ProofKit
import Derived.OpenShut
import Derived.Deep.SlicePairs
import Derived.SizedLaws
import Derived.ChangeSame
namespace Go.Proofs.Ytephoegcpjdglaa
open Go.ChangeShapes Go.WideShapes Go.ChangeAt Go.RowKit Go.Deep
theorem weights_allP {H : Type} {P : Program} {e : TypeId} : ∀ {ds : List (DataW H)} {d : DataW H}, d ∈ ds → ∀ q ∈ d.weights P e, q ∈ DataW.weightsAll P e ds
  | d0 :: ds, d, hd, q, hq => by
    simp only [DataW.weightsAll, List.mem_append]
    rcases List.mem_cons.1 hd with rfl | hd
    · exact .inl hq
    · exact .inr (weights_allP hd q hq)
section
variable {H : Type} {enc : TypeId × Value → H} {W : World} {spare : Nat → Bool} {held : Bool} {b0 base fuel : Nat}

def Fits9 (c : Cmd9) : Prop := c.key.size ≤ 140737488351232 ∧ c.old.size ≤ 140737488351232 ∧ c.val.size ≤ 140737488351232 ∧ c.unt.size ≤ 140737488351232 ∧
  (-9223372036854775808 ≤ c.k ∧ c.k ≤ 9223372036854775807) ∧ (-9223372036854775808 ≤ c.s ∧ c.s ≤ 9223372036854775807) ∧ (-9223372036854775808 ≤ c.q ∧ c.q ≤ 9223372036854775807) ∧ (-9223372036854775808 ≤ c.lim ∧ c.lim ≤ 9223372036854775807)

end
end Go.Proofs.Ytephoegcpjdglaa

namespace Go.Proofs.Ytephoegcpjdglaa
open Go.RowKit
def inI (n : Int) : Prop := -9223372036854775808 ≤ n ∧ n ≤ 9223372036854775807

def zeroC9 : Cmd9 := ⟨0, 0, 0, em9, em9, em9, em9, 0⟩
structure Conf10 where
  vs : List Int
  ls : List Int
structure Ent10 where
  i : Int
  t : Int
  k : Int
  c : Cmd9
  f : Conf10
structure Hard10 where
  t : Int
  v : Int
  c : Int
structure Snap10 where
  i : Int
  t : Int
  f : Conf10
  d : List Int
structure Msg10 where
  k : Int
  fr : Int
  to : Int
  t : Int
  i : Int
  lt : Int
  cm : Int
  ro : Int
  rej : Bool
  hint : Int
  es : List Ent10
  sn : Snap10

def noF10 : Conf10 := ⟨[], []⟩
def noE10 : Ent10 := ⟨0, 0, 0, zeroC9, noF10⟩
def noS10 : Snap10 := ⟨0, 0, noF10, []⟩
def rises10 (l : List Int) : Bool := (List.range l.length).all fun i => decide (1 ≤ l.getD i 0) && decide (l.getD i 0 ≤ 9) && (decide (i = 0) || decide (l.getD (i - 1) 0 < l.getD i 0))
def goodF10 (c : Conf10) : Bool := rises10 c.vs && rises10 c.ls && !c.vs.isEmpty && c.vs.all fun a => c.ls.all fun b => !decide (a = b)
def emptyF10 (c : Conf10) : Bool := c.vs.isEmpty && c.ls.isEmpty
def goodE10 (e : Ent10) : Bool :=
  decide (1 ≤ e.i) && decide (1 ≤ e.t) &&
    (if e.k = 1 then emptyF10 e.f && same9 e.c zeroC9
     else if e.k = 2 then emptyF10 e.f && good9 e.c
     else if e.k = 3 then goodF10 e.f && same9 e.c zeroC9
     else false)
def goodS10 (s : Snap10) : Bool := decide (1 ≤ s.i) && decide (1 ≤ s.t) && goodF10 s.f && decide (s.d.length ≤ 1048576)
def sameF10 (a b : Conf10) : Bool := decide (a.vs = b.vs) && decide (a.ls = b.ls)
def sameE10 (a b : Ent10) : Bool := decide (a.i = b.i) && decide (a.t = b.t) && decide (a.k = b.k) && same9 a.c b.c && sameF10 a.f b.f
def sameS10 (a b : Snap10) : Bool := decide (a.i = b.i) && decide (a.t = b.t) && sameF10 a.f b.f && decide (a.d = b.d)

def inL (l : List Int) : Prop := ∀ n ∈ l, inI n
def zeroE13 : Ent10 := ⟨0, 0, 0, zeroC9, noF10⟩
def chain13 : Int → Int → List Ent10 → Bool
  | _, _, [] => true
  | ix, t, e :: l => goodE10 e && decide (e.i = ix + 1) && decide (t ≤ e.t) && chain13 (ix + 1) e.t l
def lastT13 (t : Int) : List Ent10 → Int
  | [] => t
  | e :: l => lastT13 e.t l
theorem lastT_app13 (t : Int) : ∀ l m : List Ent10, lastT13 t (l ++ m) = lastT13 (lastT13 t l) m
  | [], _ => rfl
  | e :: l, m => lastT_app13 e.t l m
theorem chain_app13 : ∀ (ix t : Int) (l m : List Ent10), chain13 ix t (l ++ m) = (chain13 ix t l && chain13 (ix + l.length) (lastT13 t l) m)
  | ix, t, [], m => by simp [chain13, lastT13]
  | ix, t, e :: l, m => by
    rw [List.cons_append, chain13, chain13, chain_app13 (ix + 1) e.t l m, ← Bool.and_assoc, lastT13, List.length_cons, show ix + 1 + (l.length : Int) = ix + ((l.length + 1 : Nat) : Int) by omega]
theorem chain_one13 {ix t : Int} {e : Ent10} : chain13 ix t [e] = (goodE10 e && decide (e.i = ix + 1) && decide (t ≤ e.t)) := by
  rw [chain13, chain13, Bool.and_true]
theorem chain_cons13 {ix t : Int} {e : Ent10} {l : List Ent10} (h : chain13 ix t (e :: l) = true) : goodE10 e = true ∧ e.i = ix + 1 ∧ t ≤ e.t ∧ chain13 (ix + 1) e.t l = true := by
  rw [chain13] at h
  simp only [Bool.and_eq_true, decide_eq_true_eq] at h
  exact ⟨h.1.1.1, h.1.1.2, h.1.2, h.2⟩
theorem lastT_snoc13 {t : Int} {l : List Ent10} {j : Nat} (hj : j < l.length) : lastT13 t (l.take (j + 1)) = l[j].t := by
  rw [List.take_add_one, List.getElem?_eq_getElem hj, Option.toList_some, lastT_app13]
  rfl
theorem chain_prefix13 {ix t : Int} {l : List Ent10} (h : chain13 ix t l = true) (j : Nat) : chain13 ix t (l.take j) = true := by
  rw [← List.take_append_drop j l, chain_app13, Bool.and_eq_true] at h
  exact h.1
theorem chain_drop13 {ix t : Int} {l : List Ent10} (h : chain13 ix t l = true) {j : Nat} (hj : j ≤ l.length) : chain13 (ix + j) (lastT13 t (l.take j)) (l.drop j) = true := by
  rw [← List.take_append_drop j l, chain_app13, Bool.and_eq_true, List.length_take, Nat.min_eq_left hj] at h
  exact h.2
theorem chain_at13 {ix t : Int} {l : List Ent10} (h : chain13 ix t l = true) {j : Nat} (hj : j < l.length) : goodE10 l[j] = true ∧ l[j].i = ix + j + 1 := by
  have h2 := chain_drop13 h (Nat.le_of_lt hj)
  rw [List.drop_eq_getElem_cons hj] at h2
  obtain ⟨a, b, -, -⟩ := chain_cons13 h2
  exact ⟨a, b⟩
theorem chain_low13 : ∀ {ix t : Int} {l : List Ent10}, chain13 ix t l = true → ∀ {a : Ent10}, a ∈ l → t ≤ a.t
  | _, _, [], _, _, ha => by cases ha
  | ix, t, e :: l, h, a, ha => by
    obtain ⟨-, -, h3, h4⟩ := chain_cons13 h
    rcases List.mem_cons.1 ha with rfl | ha
    · exact h3
    · exact Int.le_trans h3 (chain_low13 h4 ha)
theorem chain_mono13 {ix t : Int} {l : List Ent10} (h : chain13 ix t l = true) {i j : Nat} (hij : i ≤ j) (hj : j < l.length) : (l[i]'(Nat.lt_of_le_of_lt hij hj)).t ≤ l[j].t := by
  rcases Nat.lt_or_ge i j with h1 | h1
  · have hi : i < l.length := Nat.lt_trans h1 hj
    have h2 := chain_drop13 h (Nat.le_of_lt hi)
    rw [List.drop_eq_getElem_cons hi] at h2
    obtain ⟨-, -, -, h4⟩ := chain_cons13 h2
    refine chain_low13 h4 ?_
    have e : l[j] = (l.drop (i + 1))[j - (i + 1)]'(by rw [List.length_drop]; omega) := by
      rw [List.getElem_drop]
      congr 1
      omega
    rw [e]
    exact List.getElem_mem _
  · have e : i = j := by omega
    subst e
    exact Int.le_refl _
theorem lastT_last13 {t : Int} {l : List Ent10} (h : 0 < l.length) : lastT13 t l = (l[l.length - 1]'(by omega)).t := by
  have h1 : l.take (l.length - 1 + 1) = l := List.take_of_length_le (by omega)
  have h2 := lastT_snoc13 (t := t) (l := l) (j := l.length - 1) (by omega)
  rw [h1] at h2
  exact h2

structure LG where
  ix : Int
  t0 : Int
  l : List Ent10
  done : Int
  used : Int
  safe : Int
def LG.end (L : LG) : Int := L.ix + L.l.length
def LG.endT (L : LG) : Int := lastT13 L.t0 L.l
structure LG.Inv (L : LG) : Prop where
  x0 : 0 ≤ L.ix
  t0 : 0 ≤ L.t0
  row : chain13 L.ix L.t0 L.l = true
  used : L.ix ≤ L.used
  done : L.used ≤ L.done
  most : L.done ≤ L.end
  sx : L.ix ≤ L.safe
  safe : L.safe ≤ L.end
def new13 (ix t : Int) (l : List Ent10) : Option LG := if 0 ≤ ix ∧ ix ≤ 1099511627776 ∧ 0 ≤ t ∧ chain13 ix t l = true then some ⟨ix, t, l, ix, ix, ix + l.length⟩ else none
def LG.ent (L : LG) (i : Int) : Ent10 := L.l.getD (i - L.ix - 1).toNat zeroE13
def LG.term (L : LG) (i : Int) : Int × Int := if i < L.ix then (0, 11) else if L.end < i then (0, 6) else if i = L.ix then (L.t0, 0) else ((L.ent i).t, 0)
def LG.slice (L : LG) (from_ most : Int) : List Ent10 := if from_ ≤ L.ix then [] else (L.l.drop (from_ - L.ix - 1).toNat).take most.toNat
def LG.newer (L : LG) (i t : Int) : Bool := decide (L.endT < t) || (decide (t = L.endT) && decide (L.end ≤ i))
def LG.app (L : LG) (e : Ent10) : Int × LG := if chain13 L.end L.endT [e] = true then (0, { L with l := L.l ++ [e] }) else (2, L)
def LG.diff (L : LG) : List Ent10 → Option (List Ent10)
  | [] => none
  | e :: l => if L.term e.i = (e.t, 0) then L.diff l else some (e :: l)
def LG.cut (L : LG) (x : Ent10) (m : List Ent10) : LG := { L with l := L.l.take (x.i - L.ix - 1).toNat ++ m, safe := if x.i ≤ L.safe then x.i - 1 else L.safe }
def LG.match_ (L : LG) (i t : Int) (es : List Ent10) : (Int × Bool) × LG :=
  if L.term i = (t, 0) ∧ chain13 i t es = true then
    match L.diff es with
    | none => ((i + es.length, true), L)
    | some [] => ((i + es.length, true), L)
    | some (x :: m) => if x.i ≤ L.done then ((0, false), L) else ((i + es.length, true), L.cut x (x :: m))
  else ((0, false), L)
def LG.hintN (L : LG) (t : Int) : Nat → Int
  | 0 => L.ix
  | n + 1 => if (L.term (L.ix + n + 1)).1 ≤ t then L.ix + n + 1 else L.hintN t n
def LG.hint (L : LG) (i t : Int) : Int := L.hintN t ((if i < L.end then i else L.end) - L.ix).toNat
def LG.commit (L : LG) (i : Int) : Bool × LG := if L.done < i ∧ i ≤ L.end then (true, { L with done := i }) else (false, L)
def LG.sure (L : LG) (i : Int) : LG := if L.safe < (if L.end < i then L.end else i) then { L with safe := if L.end < i then L.end else i } else L
def LG.unsure (L : LG) : List Ent10 := L.slice (L.safe + 1) L.l.length
def LG.applyN (L : LG) (most : Int) : Int := if most < L.done - L.used then most else L.done - L.used
def LG.apply (L : LG) (most : Int) : List Ent10 × LG := if L.applyN most < 1 then ([], L) else (L.slice (L.used + 1) (L.applyN most), { L with used := L.used + L.applyN most })
def LG.compact (L : LG) (i : Int) : Bool × LG := if L.ix < i ∧ i ≤ L.used ∧ i ≤ L.safe then (true, { L with ix := i, t0 := (L.term i).1, l := L.slice (i + 1) L.l.length }) else (false, L)
def LG.restore (L : LG) (i t : Int) : LG := if 1 ≤ i ∧ i ≤ 1099511627776 ∧ 1 ≤ t then ⟨i, t, [], i, i, i⟩ else L
def conf13 : List Ent10 → Conf10 × Int
  | [] => (noF10, 0)
  | e :: l => if (conf13 l).2 = 0 ∧ e.k = 3 then (e.f, e.i) else conf13 l

theorem LG.ent_at {L : LG} {j : Nat} (hj : j < L.l.length) : L.ent (L.ix + j + 1) = L.l[j] := by
  unfold LG.ent
  rw [show (L.ix + (j : Int) + 1 - L.ix - 1).toNat = j by omega, List.getD_eq_getElem?_getD, List.getElem?_eq_getElem hj, Option.getD_some]
theorem LG.term_base {L : LG} : L.term L.ix = (L.t0, 0) := by
  unfold LG.term LG.end
  rw [if_neg (by omega), if_neg (by omega), if_pos rfl]
theorem LG.term_at {L : LG} {j : Nat} (hj : j < L.l.length) : L.term (L.ix + j + 1) = (L.l[j].t, 0) := by
  unfold LG.term LG.end
  rw [if_neg (by omega), if_neg (by omega), if_neg (by omega), LG.ent_at hj]
theorem LG.term_ok {L : LG} {i t : Int} (h : L.term i = (t, 0)) : L.ix ≤ i ∧ i ≤ L.end ∧ lastT13 L.t0 (L.l.take (i - L.ix).toNat) = t := by
  by_cases h1 : i < L.ix
  · unfold LG.term at h
    rw [if_pos h1] at h
    cases h
  by_cases h2 : L.end < i
  · unfold LG.term at h
    rw [if_neg h1, if_pos h2] at h
    cases h
  refine ⟨by omega, by omega, ?_⟩
  unfold LG.end at h2
  rcases Int.lt_or_eq_of_le (Int.not_lt.1 h1) with h3 | h3
  · obtain ⟨j, rfl⟩ : ∃ j : Nat, i = L.ix + j + 1 := ⟨(i - L.ix - 1).toNat, by omega⟩
    have hj : j < L.l.length := by omega
    rw [LG.term_at hj] at h
    rw [show (L.ix + (j : Int) + 1 - L.ix).toNat = j + 1 by omega, lastT_snoc13 hj]
    exact congrArg Prod.fst h
  · subst h3
    rw [LG.term_base] at h
    rw [Int.sub_self]
    exact congrArg Prod.fst h
theorem new_inv13 {ix t : Int} {l : List Ent10} {L : LG} (h : new13 ix t l = some L) : L.Inv ∧ L = ⟨ix, t, l, ix, ix, ix + l.length⟩ := by
  unfold new13 at h
  split at h
  · rename_i hc
    obtain rfl := Option.some.inj h
    exact ⟨⟨hc.1, hc.2.2.1, hc.2.2.2, Int.le_refl _, Int.le_refl _, by show ix ≤ ix + (l.length : Int); omega, by show ix ≤ ix + (l.length : Int); omega, Int.le_refl _⟩, rfl⟩
  · cases h
theorem LG.Inv.app {L : LG} (h : L.Inv) (e : Ent10) : (L.app e).2.Inv := by
  unfold LG.app
  split
  · rename_i hc
    have hl : ((L.l ++ [e]).length : Int) = L.l.length + 1 := by rw [List.length_append]; simp
    have hm := h.most
    have hs := h.safe
    unfold LG.end at hm hs
    refine ⟨h.x0, h.t0, ?_, h.used, h.done, ?_, h.sx, ?_⟩
    · show chain13 L.ix L.t0 (L.l ++ [e]) = true
      rw [chain_app13, h.row]
      exact hc
    · show L.done ≤ L.ix + ((L.l ++ [e]).length : Int); omega
    · show L.safe ≤ L.ix + ((L.l ++ [e]).length : Int); omega
  · exact h
theorem LG.Inv.commit {L : LG} (h : L.Inv) (i : Int) : (L.commit i).2.Inv := by
  unfold LG.commit
  split
  · rename_i hc
    exact ⟨h.x0, h.t0, h.row, h.used, by have := h.done; show L.used ≤ i; omega, hc.2, h.sx, h.safe⟩
  · exact h
theorem LG.Inv.sure {L : LG} (h : L.Inv) (i : Int) : (L.sure i).Inv := by
  unfold LG.sure
  have h1 := h.sx
  by_cases hi : L.end < i
  · rw [if_pos hi]
    split
    · exact ⟨h.x0, h.t0, h.row, h.used, h.done, h.most, by show L.ix ≤ L.end; omega, Int.le_refl _⟩
    · exact h
  · rw [if_neg hi]
    split
    · exact ⟨h.x0, h.t0, h.row, h.used, h.done, h.most, by show L.ix ≤ i; omega, Int.not_lt.1 hi⟩
    · exact h
theorem LG.Inv.apply {L : LG} (h : L.Inv) (most : Int) : (L.apply most).2.Inv := by
  unfold LG.apply
  split
  · exact h
  · rename_i hc
    have h1 := h.used
    have h2 : L.applyN most ≤ L.done - L.used := by unfold LG.applyN; split <;> omega
    exact ⟨h.x0, h.t0, h.row, by show L.ix ≤ L.used + L.applyN most; omega, by show L.used + L.applyN most ≤ L.done; omega, h.most, h.sx, h.safe⟩
theorem LG.slice_from {L : LG} {j : Nat} : L.slice (L.ix + j + 1) L.l.length = L.l.drop j := by
  unfold LG.slice
  rw [if_neg (by omega), show (L.ix + (j : Int) + 1 - L.ix - 1).toNat = j by omega, List.take_of_length_le (by rw [List.length_drop]; omega)]
theorem LG.Inv.compact {L : LG} (h : L.Inv) (i : Int) : (L.compact i).2.Inv := by
  unfold LG.compact
  split
  · rename_i hc
    have h1 := h.used
    have h2 := h.done
    have h3 := h.most
    have h4 := h.safe
    unfold LG.end at h3 h4
    have h5 := h.x0
    obtain ⟨j, rfl⟩ : ∃ j : Nat, i = L.ix + j := ⟨(i - L.ix).toNat, by omega⟩
    have hj : j ≤ L.l.length := by omega
    have ht : L.term (L.ix + j) = (lastT13 L.t0 (L.l.take j), 0) := by
      cases j with
      | zero => rw [show L.ix + ((0 : Nat) : Int) = L.ix by omega, LG.term_base]; rfl
      | succ j =>
        rw [show L.ix + ((j + 1 : Nat) : Int) = L.ix + j + 1 by omega, LG.term_at (by omega), lastT_snoc13 (by omega)]
    have hd := chain_drop13 h.row hj
    have hlen : ((L.l.drop j).length : Int) = L.l.length - j := by rw [List.length_drop]; omega
    refine ⟨by show 0 ≤ L.ix + (j : Int); omega, ?_, ?_, hc.2.1, h2, ?_, hc.2.2, ?_⟩
    · show 0 ≤ (L.term (L.ix + j)).1
      rw [ht]
      show 0 ≤ lastT13 L.t0 (L.l.take j)
      have h6 := h.t0
      cases j with
      | zero => exact h6
      | succ j =>
        rw [lastT_snoc13 (by omega)]
        have := chain_low13 h.row (List.getElem_mem (l := L.l) (n := j) (by omega))
        omega
    · show chain13 (L.ix + j) (L.term (L.ix + j)).1 (L.slice (L.ix + j + 1) L.l.length) = true
      rw [ht, LG.slice_from]
      exact hd
    · show L.done ≤ L.ix + (j : Int) + ((L.slice (L.ix + j + 1) L.l.length).length : Int)
      rw [LG.slice_from]; omega
    · show L.safe ≤ L.ix + (j : Int) + ((L.slice (L.ix + j + 1) L.l.length).length : Int)
      rw [LG.slice_from]; omega
  · exact h
theorem LG.Inv.restore {L : LG} (h : L.Inv) (i t : Int) : (L.restore i t).Inv := by
  unfold LG.restore
  split
  · rename_i hc
    exact ⟨by show 0 ≤ i; omega, by show 0 ≤ t; omega, rfl, Int.le_refl _, Int.le_refl _, by show i ≤ i + 0; omega, Int.le_refl _, by show i ≤ i + 0; omega⟩
  · exact h
theorem LG.diff_some {L : LG} : ∀ {es : List Ent10} {y : List Ent10}, L.diff es = some y → ∃ k, k < es.length ∧ y = es.drop k ∧ ∀ q, q < k → ∀ (hl : q < es.length), L.term es[q].i = (es[q].t, 0)
  | [], _, h => by cases h
  | e :: l, y, h => by
    unfold LG.diff at h
    split at h
    · rename_i hc
      obtain ⟨k, h1, h2, h3⟩ := LG.diff_some h
      refine ⟨k + 1, by simpa using h1, h2, fun q hq hl => ?_⟩
      cases q with
      | zero => exact hc
      | succ q => exact h3 q (by omega) (by simpa using hl)
    · obtain rfl := Option.some.inj h
      exact ⟨0, by simp, rfl, fun q hq => by omega⟩
theorem LG.diff_head {L : LG} : ∀ {es : List Ent10} {y : List Ent10}, L.diff es = some y → ∃ x m, y = x :: m ∧ ¬ L.term x.i = (x.t, 0)
  | [], _, h => by cases h
  | e :: l, y, h => by
    unfold LG.diff at h
    split at h
    · exact LG.diff_head h
    · rename_i hc
      obtain rfl := Option.some.inj h
      exact ⟨e, l, rfl, hc⟩
structure LG.Place (L : LG) (i t : Int) (es : List Ent10) (x : Ent10) (m : List Ent10) (k p : Nat) : Prop where
  kl : k < es.length
  ed : es.drop k = x :: m
  at' : x.i = i + k + 1
  pe : x.i - L.ix - 1 = p
  le : p ≤ L.l.length
  pi : L.ix + p = i + k
  len : (m.length : Int) + 1 + k = es.length
  term : lastT13 L.t0 (L.l.take p) = lastT13 t (es.take k)
theorem LG.place {L : LG} {i t : Int} {es : List Ent10} (h1 : L.term i = (t, 0)) (h2 : chain13 i t es = true) {x : Ent10} {m : List Ent10} (h3 : L.diff es = some (x :: m)) : ∃ k p, L.Place i t es x m k p := by
  obtain ⟨k, hk, he, hb⟩ := LG.diff_some h3
  obtain ⟨g1, g2, g3⟩ := LG.term_ok h1
  have hx : es[k] = x := by
    have h := he
    rw [List.drop_eq_getElem_cons hk] at h
    exact (List.cons.inj h).1.symm
  have hi := (chain_at13 h2 hk).2
  rw [hx] at hi
  have hlen : ((es.drop k).length : Int) = es.length - k := by rw [List.length_drop]; omega
  rw [← he] at hlen
  simp only [List.length_cons] at hlen
  unfold LG.end at g2
  cases k with
  | zero =>
    refine ⟨0, (i - L.ix).toNat, hk, he.symm, hi, by omega, by omega, by omega, by omega, ?_⟩
    rw [List.take_zero]
    exact g3
  | succ k =>
    have hk2 : k < es.length := by omega
    have h5 := hb k (by omega) hk2
    obtain ⟨f1, f2, f3⟩ := LG.term_ok h5
    have h6 := (chain_at13 h2 hk2).2
    unfold LG.end at f2
    refine ⟨k + 1, (x.i - L.ix - 1).toNat, hk, he.symm, hi, by omega, by omega, by omega, by omega, ?_⟩
    rw [lastT_snoc13 hk2, ← f3]
    congr 3
    omega
theorem LG.Place.row {L : LG} {i t : Int} {es : List Ent10} {x : Ent10} {m : List Ent10} {k p : Nat} (h : L.Place i t es x m k p) (hI : L.Inv) (h2 : chain13 i t es = true) : chain13 L.ix L.t0 (L.l.take p ++ x :: m) = true := by
  have hl : (L.l.take p).length = p := by rw [List.length_take]; have := h.le; omega
  rw [chain_app13, chain_prefix13 hI.row p, hl, h.term, h.pi, ← h.ed, chain_drop13 h2 (Nat.le_of_lt h.kl)]
  rfl
theorem LG.cut_eq {L : LG} {i t : Int} {es : List Ent10} {x : Ent10} {m : List Ent10} {k p : Nat} (h : L.Place i t es x m k p) : L.cut x (x :: m) = { L with l := L.l.take p ++ x :: m, safe := if x.i ≤ L.safe then x.i - 1 else L.safe } := by
  unfold LG.cut
  rw [h.pe]
  rfl
theorem LG.cut_end {L : LG} {i t : Int} {es : List Ent10} {x : Ent10} {m : List Ent10} {k p : Nat} (h : L.Place i t es x m k p) : (L.cut x (x :: m)).end = i + es.length := by
  rw [LG.cut_eq h]
  show L.ix + ((L.l.take p ++ x :: m).length : Int) = _
  have hl : (L.l.take p).length = p := by rw [List.length_take]; have := h.le; omega
  have h1 := h.pi
  have h2 := h.len
  rw [List.length_append, hl, List.length_cons]
  omega
theorem LG.Place.inv {L : LG} {i t : Int} {es : List Ent10} {x : Ent10} {m : List Ent10} {k p : Nat} (h : L.Place i t es x m k p) (hI : L.Inv) (h2 : chain13 i t es = true) (hd : L.done < x.i) : (L.cut x (x :: m)).Inv := by
  have he := LG.cut_end h
  have h1 := h.at'
  have h3 := h.kl
  have h4 := h.pe
  have h5 := hI.used
  have h6 := hI.done
  have h7 := hI.sx
  have hr := h.row hI h2
  rw [LG.cut_eq h] at he ⊢
  refine ⟨hI.x0, hI.t0, hr, hI.used, hI.done, ?_, ?_, ?_⟩
  · rw [he]; show L.done ≤ _; omega
  · show L.ix ≤ (if x.i ≤ L.safe then x.i - 1 else L.safe)
    split <;> omega
  · rw [he]
    show (if x.i ≤ L.safe then x.i - 1 else L.safe) ≤ _
    split <;> omega
structure LG.Keeps (L L' : LG) : Prop where
  ix : L.ix ≤ L'.ix
  done : L.done ≤ L'.done
  ent : ∀ n, L'.ix < n → n ≤ L.done → L'.ent n = L.ent n
theorem LG.Keeps.refl (L : LG) : L.Keeps L := ⟨Int.le_refl _, Int.le_refl _, fun _ _ _ => rfl⟩
theorem LG.keeps_match (L : LG) (i t : Int) (es : List Ent10) : L.Keeps (L.match_ i t es).2 := by
  unfold LG.match_
  split
  · rename_i hc
    cases hd : L.diff es with
    | none => exact LG.Keeps.refl L
    | some y =>
      obtain ⟨x, m, rfl, -⟩ := LG.diff_head hd
      obtain ⟨k, p, hp⟩ := LG.place hc.1 hc.2 hd
      dsimp only
      split
      · exact LG.Keeps.refl L
      · rename_i hx
        rw [LG.cut_eq hp]
        refine ⟨Int.le_refl _, Int.le_refl _, fun n h1 h2 => ?_⟩
        have h1' : L.ix < n := h1
        have h3 := hp.pe
        have h4 := hp.le
        have hl : (L.l.take p).length = p := by rw [List.length_take]; omega
        show (L.l.take p ++ x :: m).getD (n - L.ix - 1).toNat zeroE13 = L.l.getD (n - L.ix - 1).toNat zeroE13
        rw [List.getD_eq_getElem?_getD, List.getElem?_append_left (by omega), List.getElem?_take_of_lt (by omega), ← List.getD_eq_getElem?_getD]
  · exact LG.Keeps.refl L
theorem LG.keeps_commit (L : LG) (i : Int) : L.Keeps (L.commit i).2 := by
  unfold LG.commit
  split
  · rename_i hc
    exact ⟨Int.le_refl _, by show L.done ≤ i; omega, fun _ _ _ => rfl⟩
  · exact LG.Keeps.refl L
theorem LG.keeps_sure (L : LG) (i : Int) : L.Keeps (L.sure i) := by
  unfold LG.sure
  by_cases hi : L.end < i
  · rw [if_pos hi]
    split
    · exact ⟨Int.le_refl _, Int.le_refl _, fun _ _ _ => rfl⟩
    · exact LG.Keeps.refl L
  · rw [if_neg hi]
    split
    · exact ⟨Int.le_refl _, Int.le_refl _, fun _ _ _ => rfl⟩
    · exact LG.Keeps.refl L
theorem LG.keeps_apply (L : LG) (most : Int) : L.Keeps (L.apply most).2 := by
  unfold LG.apply
  split
  · exact LG.Keeps.refl L
  · exact ⟨Int.le_refl _, Int.le_refl _, fun _ _ _ => rfl⟩
theorem LG.keeps_compact {L : LG} (h : L.Inv) (i : Int) : L.Keeps (L.compact i).2 := by
  unfold LG.compact
  split
  · rename_i hc
    have h1 := h.done
    have h2 := h.most
    unfold LG.end at h2
    obtain ⟨j, rfl⟩ : ∃ j : Nat, i = L.ix + j := ⟨(i - L.ix).toNat, by omega⟩
    refine ⟨by show L.ix ≤ L.ix + (j : Int); omega, Int.le_refl _, fun n h3 h4 => ?_⟩
    have h3' : L.ix + (j : Int) < n := h3
    show (L.slice (L.ix + j + 1) L.l.length).getD (n - (L.ix + j) - 1).toNat zeroE13 = L.l.getD (n - L.ix - 1).toNat zeroE13
    rw [LG.slice_from, List.getD_eq_getElem?_getD, List.getElem?_drop, ← List.getD_eq_getElem?_getD]
    congr 1
    omega
  · exact LG.Keeps.refl L
theorem LG.end_app (L : LG) (e : Ent10) : (L.app e).2.end ≤ L.end + 1 := by
  unfold LG.app
  split
  · show L.ix + ((L.l ++ [e]).length : Int) ≤ L.ix + (L.l.length : Int) + 1
    rw [List.length_append, List.length_singleton]
    omega
  · show L.end ≤ _; omega
theorem LG.end_match {L : LG} (i t : Int) (es : List Ent10) : (L.match_ i t es).2.end ≤ L.end + es.length := by
  unfold LG.match_
  split
  · rename_i hc
    obtain ⟨g1, g2, -⟩ := LG.term_ok hc.1
    cases hd : L.diff es with
    | none => show L.end ≤ _; omega
    | some y =>
      obtain ⟨x, m, rfl, -⟩ := LG.diff_head hd
      obtain ⟨k, p, hp⟩ := LG.place hc.1 hc.2 hd
      dsimp only
      split
      · show L.end ≤ _; omega
      · rw [LG.cut_end hp]; omega
  · show L.end ≤ _; omega
theorem LG.end_compact {L : LG} (h : L.Inv) (i : Int) : (L.compact i).2.end = L.end := by
  unfold LG.compact
  split
  · rename_i hc
    have h1 := h.done
    have h2 := h.most
    unfold LG.end at h2
    obtain ⟨j, rfl⟩ : ∃ j : Nat, i = L.ix + j := ⟨(i - L.ix).toNat, by omega⟩
    show L.ix + (j : Int) + ((L.slice (L.ix + j + 1) L.l.length).length : Int) = L.ix + (L.l.length : Int)
    rw [LG.slice_from, List.length_drop]
    omega
  · rfl
theorem same9_iff (a b : Cmd9) : same9 a b = true ↔ a = b := by
  obtain ⟨k, s, q, key, old, val, unt, lim⟩ := a
  obtain ⟨k', s', q', key', old', val', unt', lim'⟩ := b
  simp [same9, and_assoc]
def KindM10 (x : Msg10) : Prop := (x.k = 5 → x.es.length ≤ 16 ∧ ∀ e ∈ x.es, goodE10 e = true) ∧ (x.k ≠ 5 → x.es = []) ∧ (x.k ≠ 7 → x.sn = noS10)
def goodM10 (x : Msg10) : Bool :=
  decide (1 ≤ x.k) && decide (x.k ≤ 10) && decide (1 ≤ x.fr) && decide (x.fr ≤ 9) && decide (1 ≤ x.to) && decide (x.to ≤ 9) && decide (1 ≤ x.t) && decide (0 ≤ x.i) && decide (0 ≤ x.lt) && decide (0 ≤ x.cm) && decide (0 ≤ x.ro) && decide (0 ≤ x.hint) &&
    decide (x.es.length ≤ 16) && (x.es.isEmpty || decide (x.k = 5)) &&
    ((List.range x.es.length).all fun j => goodE10 (x.es.getD j noE10) && decide ((x.es.getD j noE10).i - x.i = (j : Int) + 1) && decide ((x.es.getD j noE10).t ≤ x.t)) &&
    (if x.k = 7 then goodS10 x.sn else sameS10 x.sn noS10)
theorem sameF10_iff (a b : Conf10) : sameF10 a b = true ↔ a = b := by
  obtain ⟨v, l⟩ := a
  obtain ⟨v', l'⟩ := b
  simp [sameF10]
theorem sameS10_iff (a b : Snap10) : sameS10 a b = true ↔ a = b := by
  obtain ⟨i, t, f, d⟩ := a
  obtain ⟨i', t', f', d'⟩ := b
  simp [sameS10, sameF10_iff, and_assoc]
theorem sameE10_iff (a b : Ent10) : sameE10 a b = true ↔ a = b := by
  obtain ⟨i, t, k, c, f⟩ := a
  obtain ⟨i', t', k', c', f'⟩ := b
  simp [sameE10, sameF10_iff, same9_iff, and_assoc]
theorem goodM10_kind {x : Msg10} (h : goodM10 x = true) : KindM10 x := by
  unfold goodM10 at h
  simp only [Bool.and_eq_true, decide_eq_true_eq, Bool.or_eq_true, List.all_eq_true, List.mem_range] at h
  obtain ⟨⟨⟨⟨_, h13⟩, h14⟩, h15⟩, h16⟩ := h
  refine ⟨fun hk => ⟨h13, fun e he => ?_⟩, fun hk => ?_, fun hk => ?_⟩
  · obtain ⟨j, hj, rfl⟩ := List.getElem_of_mem he
    have := (h15 j hj).1.1
    rwa [List.getD_eq_getElem?_getD, List.getElem?_eq_getElem hj] at this
  · rcases h14 with h14 | h14
    · exact List.isEmpty_iff.1 h14
    · exact absurd h14 hk
  · rw [if_neg hk] at h16
    exact (sameS10_iff _ _).1 h16

theorem rises10_at {l : List Int} (h : rises10 l = true) {i : Nat} (hi : i < l.length) : (1 ≤ l.getD i 0 ∧ l.getD i 0 ≤ 9) ∧ (i = 0 ∨ l.getD (i - 1) 0 < l.getD i 0) := by
  unfold rises10 at h
  simp only [List.all_eq_true, List.mem_range, Bool.and_eq_true, Bool.or_eq_true, decide_eq_true_eq] at h
  exact h i hi
theorem rises10_len {l : List Int} (h : rises10 l = true) : l.length ≤ 9 := by
  have key : ∀ i, i < l.length → (i : Int) + 1 ≤ l.getD i 0 := by
    intro i
    induction i with
    | zero => intro hi; have := (rises10_at h hi).1.1; omega
    | succ i ih =>
      intro hi
      have h1 := ih (by omega)
      have h2 := (rises10_at h hi).2
      rw [Nat.add_sub_cancel] at h2
      omega
  rcases Nat.eq_zero_or_pos l.length with h0 | h0
  · omega
  · have h1 := key (l.length - 1) (by omega)
    have h2 := (rises10_at h (i := l.length - 1) (by omega)).1.2
    omega
theorem goodF10_parts {c : Conf10} (h : goodF10 c = true) : rises10 c.vs = true ∧ rises10 c.ls = true ∧ c.vs ≠ [] ∧ ∀ a ∈ c.vs, ∀ b ∈ c.ls, a ≠ b := by
  unfold goodF10 at h
  simp only [Bool.and_eq_true, Bool.not_eq_true', List.all_eq_true, decide_eq_false_iff_not] at h
  obtain ⟨⟨⟨h1, h2⟩, h3⟩, h4⟩ := h
  exact ⟨h1, h2, (fun e => by rw [e] at h3; cases h3), h4⟩
end Go.Proofs.Ytephoegcpjdglaa
