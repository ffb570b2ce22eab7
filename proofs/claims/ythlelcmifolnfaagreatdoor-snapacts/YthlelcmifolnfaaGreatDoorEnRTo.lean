import Derived.Test.YthlelcmifolnfaaGreatDoorCmA
import Derived.Test.YthlelcmifolnfaaGreatDoorCmPTo
import Derived.ProofKit
import Derived.OpenShut
import Derived.Deep.SlicePairs
import Derived.SizedLaws
import Derived.ChangeSame
namespace Go.Proofs.YthlelcmifolnfaaGreatDoor
open Go.ChangeShapes Go.WideShapes Go.ChangeAt Go.RowKit Go.Deep
theorem weights_allP {H : Type} {P : Program} {e : TypeId} : ∀ {ds : List (DataW H)} {d : DataW H}, d ∈ ds → ∀ q ∈ d.weights P e, q ∈ DataW.weightsAll P e ds
  | d0 :: ds, d, hd, q, hq => by
    simp only [DataW.weightsAll, List.mem_append]
    rcases List.mem_cons.1 hd with rfl | hd
    · exact .inl hq
    · exact .inr (weights_allP hd q hq)
section
variable {H : Type} {enc : TypeId × Value → H} {W : World} {spare : Nat → Bool} {held : Bool} {b0 base fuel : Nat}

theorem bytes_in9 {a : Option Addr} {n c : Nat} {x : DataW H × List MemPlace} (h : DataW.trod enc Tryz.prog W base spare held fuel 25 [.slice a n c] = some x) (hw : ∀ q ∈ x.1.weights Tryz.prog 25, q ≤ reachBytes) :
    ∃ zs : List Int, zs.length = n ∧ Has W (.slice a n c) zs ∧ IsB zs ∧ n ≤ 140737488351232 := by
  rcases open_ints Tryz.underlying25 Tryz.underlying5 (by kernel_rfl) h with ⟨hcs, _⟩ | ⟨a', l, c', zs, hcs, _, hl, hm, hz, hx, hcell, hwz⟩
  · simp only [List.cons.injEq, Value.slice.injEq, and_true] at hcs
    obtain ⟨rfl, rfl, rfl⟩ := hcs
    exact ⟨[], rfl, ⟨none, 0, rfl, Nat.le_refl _, fun _ => rfl, fun h => absurd h (Nat.lt_irrefl 0)⟩, IsB.nil, by omega⟩
  · simp only [List.cons.injEq, Value.slice.injEq, and_true] at hcs
    obtain ⟨rfl, rfl, rfl⟩ := hcs
    have hnz : n ≤ zs.length := by rw [hz]; split <;> omega
    have hlen : (zs.take n).length = n := by rw [List.length_take]; omega
    have hs : n ≤ 140737488351232 := by
      have := hw ((((lits IntKind.u8 (zs.take n)) : List (DataW H)).length + ((lits IntKind.u8 (zs.drop n)) : List (DataW H)).length) * Tryz.prog.bytesOf 5) (by rw [hx]; simp [DataW.weights, Tryz.underlying25])
      rw [show Tryz.prog.bytesOf 5 = 1 by kernel_rfl] at this
      simp only [lits, List.length_map, hlen, reachBytes] at this
      omega
    refine ⟨zs.take n, hlen, ⟨some a', c, by rw [hlen], by rw [hlen]; exact hl, (fun h => by cases h), fun h0 => ?_⟩, fun z hz => ?_, hs⟩
    · rw [hlen] at h0 ⊢
      obtain ⟨b, o, s⟩ := a'
      obtain rfl : s = none := by simpa [Addr.add] using World.cell?_spot (hcell 0 (by omega))
      refine ⟨b, o, rfl, World.block_lt_of_cell? W _ (hcell 0 (by omega)), fun i hi => ?_⟩
      rw [← Go.WideShapes.add_plain, hcell i (by omega)]
      simp [List.getD_eq_getElem?_getD, hi]
    · have := bounds_u8 (hwz z (List.mem_of_mem_take hz))
      omega

end
end Go.Proofs.YthlelcmifolnfaaGreatDoor

namespace Go.Proofs.YthlelcmifolnfaaGreatDoor
open Go.RowKit
theorem rotL_eq (x : Int) (h0 : 0 ≤ x) (h1 : x < 18446744073709551616) : rotL x = x * 2 % 18446744073709551616 + x / 9223372036854775808 := by
  unfold rotL
  rw [IntKind.wrap_u64, bits_join .u64 64 (by decide) (fun n h0 h1 => by rw [IntKind.wrap_u64]; omega) 1 _ _ (by omega) (by omega) (by omega) (by omega) (by omega) (by omega)]
theorem rotR_eq (x : Int) (h0 : 0 ≤ x) (h1 : x < 18446744073709551616) : rotR x = x % 2 * 9223372036854775808 + x / 2 := by
  unfold rotR
  have e : IntKind.u64.wrap (x * 9223372036854775808) = x % 2 * 9223372036854775808 := by rw [IntKind.wrap_u64]; omega
  rw [e, bits_join .u64 64 (by decide) (fun n h0 h1 => by rw [IntKind.wrap_u64]; omega) 63 _ _ (by omega) (by omega) (by omega) (by omega) (by omega) (by omega)]
theorem rotR_rotL (x : Int) (h0 : 0 ≤ x) (h1 : x < 18446744073709551616) : rotR (rotL x) = x := by
  rw [rotL_eq x h0 h1]
  by_cases h : x < 9223372036854775808
  · have e : x * 2 % 18446744073709551616 + x / 9223372036854775808 = x * 2 := by omega
    rw [e, rotR_eq _ (by omega) (by omega)]
    omega
  · have e : x * 2 % 18446744073709551616 + x / 9223372036854775808 = x * 2 - 18446744073709551616 + 1 := by omega
    rw [e, rotR_eq _ (by omega) (by omega)]
    omega
theorem zag_zig (n : Int) (h0 : -9223372036854775808 ≤ n) (h1 : n ≤ 9223372036854775807) : zagS (zigS n) = n := by
  unfold zagS zigS
  rw [rotR_rotL _ (by rw [IntKind.wrap_u64]; omega) (by rw [IntKind.wrap_u64]; omega), IntKind.wrap_u64]
  unfold wrap64
  omega

def zigB (n : Int) : List Int := numB (zigS n)
theorem zig_bd (n : Int) : 0 ≤ zigS n ∧ zigS n < 18446744073709551616 := by
  unfold zigS
  rw [rotL_eq _ (by rw [IntKind.wrap_u64]; omega) (by rw [IntKind.wrap_u64]; omega)]
  rw [IntKind.wrap_u64]
  omega
def inI (n : Int) : Prop := -9223372036854775808 ≤ n ∧ n ≤ 9223372036854775807

def int9 (s : List Int × Bool) : Int × (List Int × Bool) := (zagS (getS s.1).1, loseS s.1 s.2 (getS s.1).2)
def zeroC9 : Cmd9 := ⟨0, 0, 0, em9, em9, em9, em9, 0⟩
theorem zigB_le (n : Int) : (zigB n).length ≤ 9 := numB_le _
theorem zigB_isB (n : Int) : IsB (zigB n) := numB_isB _
structure Conf10 where
  vs : List Int
  ls : List Int
structure Ent10 where
  i : Int
  t : Int
  k : Int
  c : Cmd9
  f : Conf10
structure Snap10 where
  i : Int
  t : Int
  f : Conf10
  d : List Int
structure Msg10 where
  k : Int
  fr : Int
  to : Int
  t : Int
  i : Int
  lt : Int
  cm : Int
  ro : Int
  rej : Bool
  hint : Int
  es : List Ent10
  sn : Snap10

def noF10 : Conf10 := ⟨[], []⟩
def noE10 : Ent10 := ⟨0, 0, 0, zeroC9, noF10⟩
def noS10 : Snap10 := ⟨0, 0, noF10, []⟩
def rises10 (l : List Int) : Bool := (List.range l.length).all fun i => decide (1 ≤ l.getD i 0) && decide (l.getD i 0 ≤ 9) && (decide (i = 0) || decide (l.getD (i - 1) 0 < l.getD i 0))
def goodF10 (c : Conf10) : Bool := rises10 c.vs && rises10 c.ls && !c.vs.isEmpty && c.vs.all fun a => c.ls.all fun b => !decide (a = b)
def emptyF10 (c : Conf10) : Bool := c.vs.isEmpty && c.ls.isEmpty
def goodE10 (e : Ent10) : Bool :=
  decide (1 ≤ e.i) && decide (1 ≤ e.t) &&
    (if e.k = 1 then emptyF10 e.f && same9 e.c zeroC9
     else if e.k = 2 then emptyF10 e.f && good9 e.c
     else if e.k = 3 then goodF10 e.f && same9 e.c zeroC9
     else false)
def goodS10 (s : Snap10) : Bool := decide (1 ≤ s.i) && decide (1 ≤ s.t) && goodF10 s.f && decide (s.d.length ≤ 1048576)
def sameF10 (a b : Conf10) : Bool := decide (a.vs = b.vs) && decide (a.ls = b.ls)
def sameS10 (a b : Snap10) : Bool := decide (a.i = b.i) && decide (a.t = b.t) && sameF10 a.f b.f && decide (a.d = b.d)

def numsB (l : List Int) : List Int := (l.map zigB).flatten
def listB (l : List Int) : List Int := numB (l.length : Int) ++ numsB l
def confB (c : Conf10) : List Int := listB c.vs ++ listB c.ls
def bytB (xs : List Int) : List Int := numB (xs.length : Int) ++ xs
def snapB (s : Snap10) : List Int := zigB s.i ++ zigB s.t ++ confB s.f ++ bytB s.d
def cnt10 (m : Int) (s : List Int × Bool) : Nat × (List Int × Bool) := ((countS m s.1).1.toNat, loseS s.1 s.2 (countS m s.1).2)
def byt10 (s : List Int × Bool) : List Int × (List Int × Bool) := ((getTextS s.1).1, loseS s.1 s.2 (getTextS s.1).2)
def ints10 : Nat → List Int × Bool → List Int × (List Int × Bool)
  | 0, s => ([], s)
  | n + 1, s => ((ints10 n s).1 ++ [(int9 (ints10 n s).2).1], (int9 (ints10 n s).2).2)
def list10 (m : Int) (s : List Int × Bool) : List Int × (List Int × Bool) := ints10 (cnt10 m s).1 (cnt10 m s).2
def conf10 (m : Int) (s : List Int × Bool) : Conf10 × (List Int × Bool) := (⟨(list10 m s).1, (list10 m (list10 m s).2).1⟩, (list10 m (list10 m s).2).2)
abbrev St := List Int × Bool
def bindR {α β : Type} (f : St → α × St) (g : α → St → β × St) : St → β × St := fun s => g (f s).1 (f s).2
def retR {α : Type} (a : α) : St → α × St := fun s => (a, s)
theorem bindR_eq {α β : Type} {f : St → α × St} {g : α → St → β × St} {s s' : St} {a : α} (h : f s = (a, s')) : bindR f g s = g a s' := by
  unfold bindR
  rw [h]
theorem numsB_cons (a : Int) (l : List Int) : numsB (a :: l) = zigB a ++ numsB l := by simp [numsB]
theorem numsB_append (l m : List Int) : numsB (l ++ m) = numsB l ++ numsB m := by simp [numsB]
theorem numsB_isB : ∀ l : List Int, IsB (numsB l)
  | [] => IsB.nil
  | a :: l => by rw [numsB_cons]; exact IsB.append (zigB_isB a) (numsB_isB l)
theorem listB_isB (l : List Int) : IsB (listB l) := IsB.append (numB_isB _) (numsB_isB l)
theorem confB_isB (c : Conf10) : IsB (confB c) := IsB.append (listB_isB _) (listB_isB _)
theorem bytB_isB {xs : List Int} (h : IsB xs) : IsB (bytB xs) := IsB.append (numB_isB _) h
theorem numsB_len : ∀ l : List Int, (numsB l).length ≤ 9 * l.length
  | [] => by simp [numsB]
  | a :: l => by
    have := numsB_len l
    have h2 := zigB_le a
    rw [numsB_cons, List.length_append, List.length_cons]
    omega

def inL (l : List Int) : Prop := ∀ n ∈ l, inI n
def snap10 (m : Int) (s : List Int × Bool) : Snap10 × (List Int × Bool) :=
  let a0 := int9 s
  let a1 := int9 a0.2
  let a2 := conf10 m a1.2
  let a3 := byt10 a2.2
  (⟨a0.1, a1.1, a2.1, a3.1⟩, a3.2)
def Stays {α : Type} (f : St → α × St) : Prop := ∀ s, s.2 = true → (f s).2.2 = true

theorem Stays.bind {α β : Type} {f : St → α × St} {g : α → St → β × St} (hf : Stays f) (hg : ∀ a, Stays (g a)) : Stays (bindR f g) := fun s h => hg _ _ (hf s h)
theorem Stays.ret {α : Type} (a : α) : Stays (retR a) := fun _ h => h
theorem stays_int : Stays int9 := fun s h => by unfold int9; dsimp only; rw [h]; exact loseS_wrong _ _
theorem stays_byt : Stays byt10 := fun s h => by unfold byt10; dsimp only; rw [h]; exact loseS_wrong _ _
theorem stays_cnt (m : Int) : Stays (cnt10 m) := fun s h => by unfold cnt10; dsimp only; rw [h]; exact loseS_wrong _ _
theorem ints10_bind (n : Nat) : ints10 (n + 1) = bindR (ints10 n) fun l => bindR int9 fun a => retR (l ++ [a]) := by
  funext s
  rw [ints10]
  unfold bindR retR
  rfl
theorem stays_ints : ∀ n, Stays (ints10 n)
  | 0 => fun _ h => h
  | n + 1 => by rw [ints10_bind]; exact (stays_ints n).bind fun _ => stays_int.bind fun _ => Stays.ret _
theorem list10_bind (m : Int) : list10 m = bindR (cnt10 m) fun n => ints10 n := by
  funext s
  unfold list10 bindR
  rfl
theorem stays_list (m : Int) : Stays (list10 m) := by rw [list10_bind]; exact (stays_cnt m).bind stays_ints
theorem conf10_bind (m : Int) : conf10 m = bindR (list10 m) fun v => bindR (list10 m) fun l => retR ⟨v, l⟩ := by
  funext s
  unfold conf10 bindR retR
  rfl
theorem snap10_bind (m : Int) : snap10 m = bindR int9 fun i => bindR int9 fun t => bindR (conf10 m) fun f => bindR byt10 fun d => retR ⟨i, t, f, d⟩ := by
  funext s
  unfold snap10 bindR retR
  rfl
def KindM10 (x : Msg10) : Prop := (x.k = 5 → x.es.length ≤ 16 ∧ ∀ e ∈ x.es, goodE10 e = true) ∧ (x.k ≠ 5 → x.es = []) ∧ (x.k ≠ 7 → x.sn = noS10)
def goodM10 (x : Msg10) : Bool :=
  decide (1 ≤ x.k) && decide (x.k ≤ 10) && decide (1 ≤ x.fr) && decide (x.fr ≤ 9) && decide (1 ≤ x.to) && decide (x.to ≤ 9) && decide (1 ≤ x.t) && decide (0 ≤ x.i) && decide (0 ≤ x.lt) && decide (0 ≤ x.cm) && decide (0 ≤ x.ro) && decide (0 ≤ x.hint) &&
    decide (x.es.length ≤ 16) && (x.es.isEmpty || decide (x.k = 5)) &&
    ((List.range x.es.length).all fun j => goodE10 (x.es.getD j noE10) && decide ((x.es.getD j noE10).i - x.i = (j : Int) + 1) && decide ((x.es.getD j noE10).t ≤ x.t)) &&
    (if x.k = 7 then goodS10 x.sn else sameS10 x.sn noS10)
theorem sameF10_iff (a b : Conf10) : sameF10 a b = true ↔ a = b := by
  obtain ⟨v, l⟩ := a
  obtain ⟨v', l'⟩ := b
  simp [sameF10]
theorem sameS10_iff (a b : Snap10) : sameS10 a b = true ↔ a = b := by
  obtain ⟨i, t, f, d⟩ := a
  obtain ⟨i', t', f', d'⟩ := b
  simp [sameS10, sameF10_iff, and_assoc]
theorem goodM10_kind {x : Msg10} (h : goodM10 x = true) : KindM10 x := by
  unfold goodM10 at h
  simp only [Bool.and_eq_true, decide_eq_true_eq, Bool.or_eq_true, List.all_eq_true, List.mem_range] at h
  obtain ⟨⟨⟨⟨_, h13⟩, h14⟩, h15⟩, h16⟩ := h
  refine ⟨fun hk => ⟨h13, fun e he => ?_⟩, fun hk => ?_, fun hk => ?_⟩
  · obtain ⟨j, hj, rfl⟩ := List.getElem_of_mem he
    have := (h15 j hj).1.1
    rwa [List.getD_eq_getElem?_getD, List.getElem?_eq_getElem hj] at this
  · rcases h14 with h14 | h14
    · exact List.isEmpty_iff.1 h14
    · exact absurd h14 hk
  · rw [if_neg hk] at h16
    exact (sameS10_iff _ _).1 h16

theorem rises10_at {l : List Int} (h : rises10 l = true) {i : Nat} (hi : i < l.length) : (1 ≤ l.getD i 0 ∧ l.getD i 0 ≤ 9) ∧ (i = 0 ∨ l.getD (i - 1) 0 < l.getD i 0) := by
  unfold rises10 at h
  simp only [List.all_eq_true, List.mem_range, Bool.and_eq_true, Bool.or_eq_true, decide_eq_true_eq] at h
  exact h i hi
theorem rises10_len {l : List Int} (h : rises10 l = true) : l.length ≤ 9 := by
  have key : ∀ i, i < l.length → (i : Int) + 1 ≤ l.getD i 0 := by
    intro i
    induction i with
    | zero => intro hi; have := (rises10_at h hi).1.1; omega
    | succ i ih =>
      intro hi
      have h1 := ih (by omega)
      have h2 := (rises10_at h hi).2
      rw [Nat.add_sub_cancel] at h2
      omega
  rcases Nat.eq_zero_or_pos l.length with h0 | h0
  · omega
  · have h1 := key (l.length - 1) (by omega)
    have h2 := (rises10_at h (i := l.length - 1) (by omega)).1.2
    omega
theorem goodF10_parts {c : Conf10} (h : goodF10 c = true) : rises10 c.vs = true ∧ rises10 c.ls = true ∧ c.vs ≠ [] ∧ ∀ a ∈ c.vs, ∀ b ∈ c.ls, a ≠ b := by
  unfold goodF10 at h
  simp only [Bool.and_eq_true, Bool.not_eq_true', List.all_eq_true, decide_eq_false_iff_not] at h
  obtain ⟨⟨⟨h1, h2⟩, h3⟩, h4⟩ := h
  exact ⟨h1, h2, (fun e => by rw [e] at h3; cases h3), h4⟩
def whole10 {α : Type} (good : α → Bool) (none : α) (r : α × St) : α × Int := if (r.2.1.isEmpty && !r.2.2) && good r.1 then (r.1, 0) else (none, 8)
def Bad10 {α : Type} (P : α → Bool) (r : α × St) : Prop := r.2.2 = true ∨ P r.1 = false
def Sim10 {α : Type} (P : α → Bool) (f g : St → α × St) : Prop := ∀ s, f s = g s ∨ (Bad10 P (f s) ∧ Bad10 P (g s))
theorem Bad10.whole {α : Type} {P : α → Bool} {r : α × St} (h : Bad10 P r) (n : α) : whole10 P n r = (n, 8) := by
  unfold whole10
  rcases h with h | h
  · rw [h]; simp
  · rw [h]; simp
theorem Sim10.whole {α : Type} {P : α → Bool} {f g : St → α × St} (h : Sim10 P f g) (n : α) (s : St) : whole10 P n (f s) = whole10 P n (g s) := by
  rcases h s with h | ⟨h1, h2⟩
  · rw [h]
  · rw [h1.whole, h2.whole]
theorem Sim10.rfl' {α : Type} {P : α → Bool} {f : St → α × St} : Sim10 P f f := fun _ => .inl rfl
theorem Sim10.bind {α β : Type} {P : α → Bool} {Q : β → Bool} {f g : St → α × St} {k h : α → St → β × St} (hf : Sim10 P f g) (hk : ∀ a, Sim10 Q (k a) (h a))
    (b1 : ∀ a, P a = false → ∀ s, Bad10 Q (k a s)) (b2 : ∀ a, P a = false → ∀ s, Bad10 Q (h a s)) (s1 : ∀ a, Stays (k a)) (s2 : ∀ a, Stays (h a)) : Sim10 Q (bindR f k) (bindR g h) := by
  intro s
  unfold bindR
  rcases hf s with e | ⟨h1, h2⟩
  · rw [e]
    exact hk _ _
  · right
    constructor
    · rcases h1 with h1 | h1
      · exact .inl (s1 _ _ h1)
      · exact b1 _ h1 _
    · rcases h2 with h2 | h2
      · exact .inl (s2 _ _ h2)
      · exact b2 _ h2 _
theorem Sim10.then {α β : Type} {Q : β → Bool} {f : St → α × St} {k h : α → St → β × St} (hk : ∀ a, Sim10 Q (k a) (h a)) : Sim10 Q (bindR f k) (bindR f h) := fun _ => hk _ _
theorem ints10_len (s : St) : ∀ n, (ints10 n s).1.length = n
  | 0 => rfl
  | n + 1 => by rw [ints10, List.length_append, ints10_len s n]; rfl
def few10 (l : List Int) : Bool := decide (l.length ≤ 9)
theorem list10_sim (m : Int) (hm : 9 ≤ m) : Sim10 few10 (list10 9) (list10 m) := by
  intro s
  have hb := getS_bd s.1
  by_cases h : (getS s.1).1 ≤ 9
  · left
    unfold list10 cnt10 countS
    rw [if_neg (by omega), if_neg (by omega)]
  · right
    constructor
    · left
      unfold list10 cnt10 countS
      rw [if_pos (by omega)]
      exact stays_ints _ _ (by simp [loseS])
    · by_cases h2 : m < (getS s.1).1
      · left
        unfold list10 cnt10 countS
        rw [if_pos (by omega)]
        exact stays_ints _ _ (by simp [loseS])
      · right
        unfold few10 list10 cnt10 countS
        rw [if_neg (by omega), ints10_len]
        exact decide_eq_false (by omega)
def fewF10 (c : Conf10) : Bool := few10 c.vs && few10 c.ls
theorem good_few10 {c : Conf10} (h : fewF10 c = false) : goodF10 c = false := by
  cases hg : goodF10 c with
  | false => rfl
  | true =>
    obtain ⟨h1, h2, -, -⟩ := goodF10_parts hg
    have l1 := rises10_len h1
    have l2 := rises10_len h2
    unfold fewF10 few10 at h
    rw [decide_eq_true l1, decide_eq_true l2] at h
    cases h
theorem conf10_sim (m : Int) (hm : 9 ≤ m) : Sim10 goodF10 (conf10 9) (conf10 m) := by
  rw [conf10_bind, conf10_bind]
  have key : ∀ v l : List Int, few10 v = false ∨ few10 l = false → goodF10 ⟨v, l⟩ = false := fun v l h => good_few10 (by unfold fewF10; rcases h with h | h <;> simp [h])
  refine (list10_sim m hm).bind (fun v => (list10_sim m hm).bind (fun l => Sim10.rfl') (fun l hl s => .inr (key v l (.inr hl))) (fun l hl s => .inr (key v l (.inr hl))) (fun _ => Stays.ret _) fun _ => Stays.ret _) ?_ ?_ (fun v => (stays_list 9).bind fun _ => Stays.ret _) fun v => (stays_list m).bind fun _ => Stays.ret _
  · exact fun v hv s => .inr (key v _ (.inl hv))
  · exact fun v hv s => .inr (key v _ (.inl hv))

theorem goodS_f {i t : Int} {f : Conf10} {d : List Int} (h : goodF10 f = false) : goodS10 ⟨i, t, f, d⟩ = false := by
  unfold goodS10
  simp [h]
theorem snap10_sim (m : Int) (hm : 9 ≤ m) : Sim10 goodS10 (snap10 9) (snap10 m) := by
  rw [snap10_bind, snap10_bind]
  refine Sim10.then fun i => Sim10.then fun t => (conf10_sim m hm).bind (fun f => Sim10.rfl') ?_ ?_ (fun _ => stays_byt.bind fun _ => Stays.ret _) fun _ => stays_byt.bind fun _ => Stays.ret _
  · exact fun f hf s => .inr (goodS_f hf)
  · exact fun f hf s => .inr (goodS_f hf)

def Tell10 {α : Type} (r : α × St) (x : α) (S : St) : Prop := r = (x, S) ∨ (S.2 = true ∧ r.2.2 = true)
theorem Tell10.whole {α : Type} {r : α × St} {x : α} {S : St} (h : Tell10 r x S) (good : α → Bool) (n : α) : whole10 good n (x, S) = whole10 good n r := by
  rcases h with h | ⟨h1, h2⟩
  · rw [h]
  · rw [Bad10.whole (.inl h1), Bad10.whole (.inl h2)]
theorem Tell10.bind {α β : Type} {f : St → α × St} {g : α → St → β × St} {s S T : St} {x : α} {y : β} (h : Tell10 (f s) x S) (hg : Tell10 (g x S) y T) (st : ∀ a, Stays (g a)) (keep : S.2 = true → T.2 = true) : Tell10 (bindR f g s) y T := by
  unfold bindR
  rcases h with h | ⟨h1, h2⟩
  · rw [h]
    exact hg
  · exact .inr ⟨keep h1, st _ _ h2⟩
end Go.Proofs.YthlelcmifolnfaaGreatDoor
