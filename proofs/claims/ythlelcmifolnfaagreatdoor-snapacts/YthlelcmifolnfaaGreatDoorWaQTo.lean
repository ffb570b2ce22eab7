import Derived.Test.YthlelcmifolnfaaGreatDoorEnRTo
import Derived.Test.YthlelcmifolnfaaGreatDoorRef6To
import Derived.Test.YthlelcmifolnfaaGreatDoorDkBTo
namespace Go.Proofs.YthlelcmifolnfaaGreatDoor
open Go.RowKit
theorem unframe_len {xs : List Int} (h : (unframeS xs).2.2 = 0) : 8 ≤ (unframeS xs).2.1.toNat ∧ (unframeS xs).2.1.toNat ≤ xs.length ∧ (unframeS xs).1.length + 8 = (unframeS xs).2.1.toNat ∧ (unframeS xs).1.length ≤ 1048576 := by
  unfold unframeS at h ⊢
  split at h
  · cases h
  split at h
  · cases h
  split at h
  · cases h
  split at h
  · cases h
  split at h
  · cases h
  split at h
  · cases h
  rename_i h1 h2 h3 h4 h5 h6
  rw [if_neg h1, if_neg h2, if_neg h3, if_neg h4, if_neg h5, if_neg h6]
  dsimp only
  rw [List.length_take, List.length_drop]
  omega
theorem whole_zero {α : Type} (g : α → Bool) (n : α) (r : α × St) (h : (whole10 g n r).2 = 0) : g (whole10 g n r).1 = true := by
  unfold whole10 at h ⊢
  split at h
  · rename_i hc
    rw [if_pos hc]
    rw [Bool.and_eq_true] at hc
    exact hc.2
  · cases h
def digs11 : Nat → Nat → List Int
  | 0, _ => []
  | f + 1, n => (if n / 10 = 0 then [] else digs11 f (n / 10)) ++ [48 + ((n % 10 : Nat) : Int)]
def valN11 (ds : List Int) : Nat := ds.foldl (fun n d => 10 * n + (d - 48).toNat) 0
def isDig11 (ds : List Int) : Prop := ∀ d ∈ ds, 48 ≤ d ∧ d ≤ 57
theorem valN_snoc (ds : List Int) (d : Int) : valN11 (ds ++ [d]) = 10 * valN11 ds + (d - 48).toNat := by simp [valN11]
theorem valN_lt (ds : List Int) (h : isDig11 ds) : valN11 ds < 10 ^ ds.length := by
  induction hn : ds.length generalizing ds with
  | zero => rw [List.eq_nil_of_length_eq_zero hn]; decide
  | succ n ih =>
    have hne : ds ≠ [] := by intro e; rw [e] at hn; cases hn
    have e := List.dropLast_concat_getLast hne
    have hd := h _ (List.getLast_mem hne)
    have hl : ds.dropLast.length = n := by rw [List.length_dropLast]; omega
    have := ih ds.dropLast (fun d hd => h d (List.dropLast_subset _ hd)) hl
    rw [← e, valN_snoc, Nat.pow_succ]
    omega
theorem digs_len : ∀ (f n : Nat), n < 10 ^ f → (digs11 f n).length ≤ f
  | 0, _, _ => Nat.le_refl _
  | f + 1, n, h => by
    rw [digs11, List.length_append, List.length_singleton]
    split
    · simp
    · have := digs_len f (n / 10) (by rw [Nat.pow_succ] at h; omega)
      omega
theorem digs_dig : ∀ (f n : Nat), isDig11 (digs11 f n)
  | 0, _ => fun _ h => by cases h
  | f + 1, n => by
    intro d hd
    rw [digs11] at hd
    rcases List.mem_append.1 hd with hd | hd
    · split at hd
      · cases hd
      · exact digs_dig f _ d hd
    · rw [List.mem_singleton.1 hd]
      omega
theorem digs_val : ∀ (f n : Nat), n < 10 ^ (f + 1) → valN11 (digs11 (f + 1) n) = n
  | 0, n, h => by
    have h0 : n / 10 = 0 := by omega
    rw [digs11, if_pos h0, valN_snoc]
    show 10 * 0 + _ = _
    omega
  | f + 1, n, h => by
    rw [digs11, valN_snoc]
    have hq : n / 10 < 10 ^ (f + 1) := by rw [Nat.pow_succ] at h; omega
    by_cases h0 : n / 10 = 0
    · rw [if_pos h0]
      show 10 * 0 + _ = _
      omega
    · rw [if_neg h0, digs_val f _ hq]
      omega
theorem digs_fuel : ∀ (f g n : Nat), n < 10 ^ f → n < 10 ^ g → 1 ≤ f → 1 ≤ g → digs11 f n = digs11 g n
  | f + 1, g + 1, n, hf, hg, _, _ => by
    rw [digs11, digs11]
    by_cases h0 : n / 10 = 0
    · rw [if_pos h0, if_pos h0]
    · rw [if_neg h0, if_neg h0]
      have h1 : n / 10 < 10 ^ f := by rw [Nat.pow_succ] at hf; omega
      have h2 : n / 10 < 10 ^ g := by rw [Nat.pow_succ] at hg; omega
      have f1 : 1 ≤ f := by
        rcases Nat.eq_zero_or_pos f with e | e
        · rw [e] at h1; simp at h1; omega
        · exact e
      have g1 : 1 ≤ g := by
        rcases Nat.eq_zero_or_pos g with e | e
        · rw [e] at h2; simp at h2; omega
        · exact e
      rw [digs_fuel f g (n / 10) h1 h2 f1 g1]
def dig11 (d : Int) : Bool := decide (48 ≤ d) && decide (d ≤ 57)
def isNum11 (b xs : List Int) : Bool := decide (b.length < xs.length) && decide (xs.length ≤ b.length + 9) && decide (xs.take b.length = b) && (xs.drop b.length).all dig11 && decide (1 ≤ valN11 (xs.drop b.length)) && decide (digs11 20 (valN11 (xs.drop b.length)) = xs.drop b.length)
def number11 (b xs : List Int) : Int × Bool := if isNum11 b xs = true then ((valN11 (xs.drop b.length) : Int), true) else (0, false)
def natsOf (x : ByteArray) : List Int := x.data.toList.map fun u => (u.toNat : Int)
theorem strOf_nats (x : ByteArray) : strOfNums (natsOf x) = x := by
  unfold strOfNums natsOf
  rw [List.map_map]
  have : (fun n : Int => UInt8.ofNat n.toNat) ∘ (fun u : UInt8 => (u.toNat : Int)) = id := by
    funext u
    simp
  rw [this, List.map_id]
theorem natsOf_len (x : ByteArray) : (natsOf x).length = x.size := by
  unfold natsOf
  rw [List.length_map, Array.length_toList]
  rfl
theorem nats_strOf {xs : List Int} (h : isB8 xs) : natsOf (strOfNums xs) = xs := by
  unfold natsOf
  rw [strOfNums_data, List.map_map]
  conv => rhs; rw [← List.map_id xs]
  refine List.map_congr_left fun z hz => ?_
  obtain ⟨h1, h2⟩ := h z hz
  show ((UInt8.ofNat z.toNat).toNat : Int) = z
  have e : (UInt8.ofNat z.toNat).toNat = z.toNat := by
    show z.toNat % 2 ^ 8 = z.toNat
    exact Nat.mod_eq_of_lt (by omega)
  omega
def insI11 (l : List Int) (n : Int) : List Int := (l.filter fun a => decide (a ≤ n)) ++ n :: l.filter fun a => decide (n < a)
def upI11 (l : List Int) : Prop := l.Pairwise fun a b => a ≤ b
theorem insI_up {l : List Int} (h : upI11 l) (n : Int) : upI11 (insI11 l n) := by
  unfold insI11 upI11
  rw [List.pairwise_append, List.pairwise_cons]
  refine ⟨h.filter _, ⟨fun b hb => ?_, h.filter _⟩, fun a ha b hb => ?_⟩
  · have := (List.mem_filter.1 hb).2
    rw [decide_eq_true_eq] at this
    omega
  · have h1 := (List.mem_filter.1 ha).2
    rw [decide_eq_true_eq] at h1
    rcases List.mem_cons.1 hb with rfl | hb
    · exact h1
    · have := (List.mem_filter.1 hb).2
      rw [decide_eq_true_eq] at this
      omega
theorem insI_perm (l : List Int) (n : Int) : (insI11 l n).Perm (n :: l) := by
  unfold insI11
  refine List.perm_middle.trans (List.Perm.cons _ ?_)
  have h := List.filter_append_perm (fun a => decide (a ≤ n)) l
  have e : (fun a : Int => decide (n < a)) = fun a => !decide (a ≤ n) := by
    funext a
    by_cases h : a ≤ n
    · rw [decide_eq_true h, decide_eq_false (by omega)]; rfl
    · rw [decide_eq_false h, decide_eq_true (by omega)]; rfl
  rw [e]
  exact h

end Go.Proofs.YthlelcmifolnfaaGreatDoor
