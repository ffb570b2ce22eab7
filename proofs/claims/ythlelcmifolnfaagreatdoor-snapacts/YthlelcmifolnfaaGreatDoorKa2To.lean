import Derived.Test.YthlelcmifolnfaaGreatDoorWaCTo
import Derived.Lib.AtoiAll
import Derived.Lib.ItoaNum
import Derived.Lib.Strings
import Derived.Test.YthlelcmifolnfaaGreatDoorRef6To
namespace Go.Proofs.YthlelcmifolnfaaGreatDoor
open Go.RowKit
def u8 (z : Int) : UInt8 := UInt8.ofNat z.toNat
theorem dec_digs : ∀ (f n : Nat), n < 10 ^ (f + 1) → Lib.decDigits n = (digs11 (f + 1) n).map u8
  | 0, n, h => by
    have hn : n < 10 := by simpa using h
    have h0 : n / 10 = 0 := by omega
    rw [Lib.decDigits, dif_pos hn, digs11, if_pos h0, List.nil_append, List.map_cons, List.map_nil]
    unfold u8
    congr 2
    omega
  | f + 1, n, h => by
    rw [Lib.decDigits, digs11]
    by_cases hn : n < 10
    · have h0 : n / 10 = 0 := by omega
      rw [dif_pos hn, if_pos h0, List.nil_append, List.map_cons, List.map_nil]
      unfold u8
      congr 2
      omega
    · have h0 : ¬ n / 10 = 0 := by omega
      have hq : n / 10 < 10 ^ (f + 1) := by rw [Nat.pow_succ] at h; omega
      rw [dif_neg hn, if_neg h0, List.map_append, dec_digs f (n / 10) hq, List.map_cons, List.map_nil]
      unfold u8
      congr 3
theorem itoa_str (n : Int) (h1 : 1 ≤ n) (h2 : n ≤ 999999999) : (⟨(Lib.itoa n).toArray⟩ : ByteArray) = strOfNums (digs11 20 n.toNat) := by
  have hb : n.toNat < 10 ^ (19 + 1) := Nat.lt_of_lt_of_le (show n.toNat < 10 ^ 9 by simp; omega) (Nat.pow_le_pow_right (by omega) (by omega))
  unfold Lib.itoa
  rw [if_neg (by omega), dec_digs 19 _ hb]
  rfl
theorem parse_digs : ∀ (l : List UInt8) (acc : Nat), isDig11 (l.map fun u => (u.toNat : Int)) → (acc + 1) * 10 ^ l.length ≤ 10 ^ 18 → Lib.parseUint10 acc l = .ok (l.foldl (fun n c => 10 * n + (c.toNat - 48)) acc)
  | [], acc, _, _ => rfl
  | c :: r, acc, h, hb => by
    have hc := h (c.toNat : Int) (by simp)
    have hp : 0 < 10 ^ r.length := Nat.pow_pos (by omega)
    rw [List.length_cons, Nat.pow_succ] at hb
    have hacc : (acc + 1) * 10 ≤ 10 ^ 18 := by
      refine Nat.le_trans ?_ hb
      rw [show (acc + 1) * (10 ^ r.length * 10) = ((acc + 1) * 10) * 10 ^ r.length by rw [Nat.mul_comm (10 ^ r.length) 10, Nat.mul_assoc]]
      exact Nat.le_mul_of_pos_right _ hp
    have h18 : (10 : Nat) ^ 18 = 1000000000000000000 := by decide
    rw [Lib.parseUint10, if_pos (by omega), if_neg (by omega), if_neg (by omega), List.foldl_cons, Nat.mul_comm acc 10]
    refine parse_digs r _ (fun d hd => h d (by simp at hd ⊢; exact .inr hd)) ?_
    refine Nat.le_trans ?_ hb
    rw [show (acc + 1) * (10 ^ r.length * 10) = ((acc + 1) * 10) * 10 ^ r.length by rw [Nat.mul_comm (10 ^ r.length) 10, Nat.mul_assoc]]
    exact Nat.mul_le_mul_right _ (by omega)
theorem val_fold (l : List UInt8) (h : isDig11 (l.map fun u => (u.toNat : Int))) : ∀ acc, (l.map fun u => (u.toNat : Int)).foldl (fun n d => 10 * n + (d - 48).toNat) acc = l.foldl (fun n c => 10 * n + (c.toNat - 48)) acc := by
  induction l with
  | nil => intro _; rfl
  | cons c r ih =>
    intro acc
    have hc := h (c.toNat : Int) (by simp)
    rw [List.map_cons, List.foldl_cons, List.foldl_cons, ih (fun d hd => h d (by simp at hd ⊢; exact .inr hd))]
    congr 2
    omega
theorem atoi_digs (l : List UInt8) (h : isDig11 (l.map fun u => (u.toNat : Int))) (hne : l ≠ []) (hl : l.length ≤ 9) : Lib.atoiAll l = .ok (valN11 (l.map fun u => (u.toNat : Int)) : Int) := by
  have hp := parse_digs l 0 h (by rw [Nat.zero_add, Nat.one_mul]; exact Nat.pow_le_pow_right (by omega) (by omega))
  have hv := valN_lt _ h
  rw [List.length_map] at hv
  have hv9 : valN11 (l.map fun u => (u.toNat : Int)) < 10 ^ 9 := Nat.lt_of_lt_of_le hv (Nat.pow_le_pow_right (by omega) hl)
  have hf : l.foldl (fun n c => 10 * n + (c.toNat - 48)) 0 = valN11 (l.map fun u => (u.toNat : Int)) := (val_fold l h 0).symm
  rw [hf] at hp
  generalize valN11 (l.map fun u => (u.toNat : Int)) = V at *
  cases l with
  | nil => exact absurd rfl hne
  | cons c r =>
    have hc := h (c.toNat : Int) (by simp)
    unfold Lib.atoiAll
    dsimp only
    rw [if_neg (by omega : ¬ (c.toNat = 43 ∨ c.toNat = 45))]
    unfold Lib.parseMag
    rw [if_neg (by simp), hp]
    dsimp only
    have h9 : (10 : Nat) ^ 9 = 1000000000 := by decide
    rw [if_neg (by omega), if_neg (by omega), if_neg (by omega)]
theorem map_nat_inj : ∀ l m : List UInt8, l.map (fun u => (u.toNat : Int)) = m.map (fun u => (u.toNat : Int)) → l = m
  | [], [], _ => rfl
  | [], _ :: _, h => by cases h
  | _ :: _, [], h => by cases h
  | a :: l, c :: m, h => by
    simp only [List.map_cons, List.cons.injEq] at h
    have : a = c := UInt8.toNat_inj.1 (by omega)
    rw [this, map_nat_inj l m h.2]
def pre12 : List Int := [115, 110, 97, 112, 45]
def preS12 : List UInt8 := [115, 110, 97, 112, 45]
def newL12 : List Int := [115, 110, 97, 112, 46, 110, 101, 119]
def newB12 : ByteArray := strOfNums newL12
def name12 (n : Int) : List Int := if 1 ≤ n ∧ n ≤ 999999999 then pre12 ++ digs11 20 n.toNat else []
def nameB12 (n : Int) : ByteArray := strOfNums (name12 n)
def num12 (x : ByteArray) : Int × Bool := number11 pre12 (natsOf x)
theorem number_name12 (n : Int) (h1 : 1 ≤ n) (h2 : n ≤ 999999999) : number11 pre12 (name12 n) = (n, true) := by
  have hb : n.toNat < 10 ^ (19 + 1) := Nat.lt_of_lt_of_le (show n.toNat < 10 ^ 9 by simp; omega) (Nat.pow_le_pow_right (by omega) (by omega))
  have hv := digs_val 19 n.toNat hb
  have hl : (digs11 20 n.toNat).length ≤ 9 := by
    rw [digs_fuel 20 9 n.toNat hb (by simp; omega) (by omega) (by omega)]
    exact digs_len 9 _ (by simp; omega)
  have hd := digs_dig 20 n.toNat
  have hne : 0 < (digs11 20 n.toNat).length := by rw [digs11, List.length_append, List.length_singleton]; omega
  have hn : name12 n = pre12 ++ digs11 20 n.toNat := if_pos ⟨h1, h2⟩
  rw [hn]
  unfold number11
  have hself : digs11 20 n.toNat = digs11 20 n.toNat := rfl
  revert hself
  generalize hds : digs11 20 n.toNat = ds at *
  intro _
  have hdr : (pre12 ++ ds).drop pre12.length = ds := List.drop_left
  have hok : isNum11 pre12 (pre12 ++ ds) = true := by
    unfold isNum11
    rw [hdr, hv]
    simp only [Bool.and_eq_true, decide_eq_true_eq, List.all_eq_true, List.length_append]
    refine ⟨⟨⟨⟨⟨by omega, by omega⟩, List.take_left⟩, fun d h => ?_⟩, by omega⟩, ?_⟩
    · have := hd d h
      simp [dig11]
      exact this
    · exact hds
  rw [if_pos hok, hdr, hv]
  congr 1
  omega
theorem pre_nats12 : preS12.map (fun u => (u.toNat : Int)) = pre12 := by decide
theorem num_ok12 {x : ByteArray} (h : (num12 x).2 = true) : 1 ≤ (num12 x).1 ∧ (num12 x).1 ≤ 999999999 ∧ natsOf x = name12 (num12 x).1 ∧ Lib.atoiAll (Lib.trimPrefix x.data.toList preS12) = .ok (num12 x).1 := by
  unfold num12 number11 at h ⊢
  split at h
  case isFalse => cases h
  rename_i hi
  rw [if_pos hi]
  unfold isNum11 at hi
  simp only [Bool.and_eq_true, decide_eq_true_eq] at hi
  obtain ⟨⟨⟨⟨⟨h1, h2⟩, h3⟩, h4⟩, h5⟩, h6⟩ := hi
  have hd := dig_all.1 h4
  have hpl : pre12.length = 5 := rfl
  have hlen : ((natsOf x).drop pre12.length).length ≤ 9 := by rw [List.length_drop]; omega
  have hv9 : valN11 ((natsOf x).drop pre12.length) < 10 ^ 9 := Nat.lt_of_lt_of_le (valN_lt _ hd) (Nat.pow_le_pow_right (by omega) hlen)
  have h9 : (10 : Nat) ^ 9 = 1000000000 := by decide
  have htake : x.data.toList.take 5 = preS12 := map_nat_inj _ _ (by rw [List.map_take, pre_nats12]; exact h3)
  have hdrop : (x.data.toList.drop 5).map (fun u => (u.toNat : Int)) = (natsOf x).drop pre12.length := by rw [List.map_drop]; rfl
  have htrim : Lib.trimPrefix x.data.toList preS12 = x.data.toList.drop 5 := by
    unfold Lib.trimPrefix
    have hp : Lib.hasPrefix x.data.toList preS12 = true := by
      unfold Lib.hasPrefix
      rw [List.isPrefixOf_iff_prefix, ← htake]
      exact List.take_prefix _ _
    rw [if_pos hp]
    rfl
  have hat := atoi_digs (x.data.toList.drop 5) (by rw [hdrop]; exact hd) (fun e => by
    have := congrArg List.length hdrop
    rw [e, List.map_nil, List.length_nil, List.length_drop] at this
    omega) (by
    have := congrArg List.length hdrop
    rw [List.length_map] at this
    omega)
  rw [hdrop] at hat
  generalize hV : valN11 ((natsOf x).drop pre12.length) = V at *
  refine ⟨by show (1 : Int) ≤ (V : Int); omega, by show (V : Int) ≤ 999999999; omega, ?_, by rw [htrim]; exact hat⟩
  show natsOf x = name12 (V : Int)
  unfold name12
  rw [if_pos (by omega), Int.toNat_natCast, h6]
  have e := List.take_append_drop pre12.length (natsOf x)
  rw [h3] at e
  exact e.symm
theorem num_of12 (x : ByteArray) : (∀ v, Lib.atoiAll (Lib.trimPrefix x.data.toList preS12) = .ok v → num12 x = if natsOf x = name12 v then (v, true) else (0, false)) ∧ ((∀ v, Lib.atoiAll (Lib.trimPrefix x.data.toList preS12) ≠ .ok v) → num12 x = (0, false)) := by
  have hno : (num12 x).2 = false → num12 x = (0, false) := fun h => by
    unfold num12 number11 at h ⊢
    split at h
    · cases h
    · rename_i hi
      rw [if_neg hi]
  refine ⟨fun v hv => ?_, fun h => hno ?_⟩
  · by_cases e : natsOf x = name12 v
    · rw [if_pos e]
      by_cases hr : 1 ≤ v ∧ v ≤ 999999999
      · unfold num12
        rw [e]
        exact number_name12 v hr.1 hr.2
      · exfalso
        unfold name12 at e
        rw [if_neg hr] at e
        have hx : x.data.toList = [] := by
          have := congrArg List.length e
          unfold natsOf at this
          rw [List.length_map] at this
          exact List.eq_nil_of_length_eq_zero this
        rw [hx] at hv
        revert hv
        have : Lib.atoiAll (Lib.trimPrefix [] preS12) = .«syntax» := by decide
        rw [this]
        exact fun h => by cases h
    · rw [if_neg e]
      refine hno ?_
      cases hb : (num12 x).2 with
      | false => rfl
      | true =>
        obtain ⟨_, _, h3, h4⟩ := num_ok12 hb
        rw [hv] at h4
        injection h4 with h4
        rw [h4] at e
        exact absurd h3 e
  · cases hb : (num12 x).2 with
    | false => rfl
    | true => exact absurd (num_ok12 hb).2.2.2 (h _)

theorem name_len12 (n : Int) : (name12 n).length ≤ 25 := by
  unfold name12
  split
  · have hl := digs_len 20 n.toNat (Nat.lt_of_lt_of_le (show n.toNat < 10 ^ 9 by simp; omega) (Nat.pow_le_pow_right (by omega) (by omega)))
    rw [List.length_append]
    show 5 + _ ≤ _
    omega
  · exact Nat.zero_le _
theorem name_isB12 (n : Int) : isB8 (name12 n) := by
  unfold name12
  split
  · intro z hz
    rcases List.mem_append.1 hz with hz | hz
    · have h : ∀ z ∈ pre12, 0 ≤ z ∧ z < 256 := by decide
      exact h z hz
    · exact digs_isB 20 _ z hz
  · intro z hz
    cases hz
theorem nameB_size12 (n : Int) : (nameB12 n).size ≤ 25 := by
  unfold nameB12
  rw [strOf_sz]
  exact name_len12 n
theorem nameB_eq12 (n : Int) (x : ByteArray) : ((nameB12 n).toList == x.toList) = decide (natsOf x = name12 n) := by
  rw [Bool.eq_iff_iff, beq_iff_eq, toListC, decide_eq_true_eq]
  constructor
  · intro e
    rw [← e]
    exact nats_strOf (name_isB12 n)
  · intro e
    unfold nameB12
    rw [← e]
    exact strOf_nats x
theorem num_name12 {x : ByteArray} (h : (num12 x).2 = true) : nameB12 (num12 x).1 = x := by
  unfold nameB12
  rw [← (num_ok12 h).2.2.1]
  exact strOf_nats x
theorem name_num12 {n : Int} (h1 : 1 ≤ n) (h2 : n ≤ 999999999) : num12 (nameB12 n) = (n, true) := by
  unfold num12 nameB12
  rw [nats_strOf (name_isB12 n)]
  exact number_name12 n h1 h2
def numsL12 (l : List ByteArray) : List Int := (l.filter fun x => (num12 x).2).map fun x => (num12 x).1
def files12 (names : List ByteArray) : List Int := names.foldl (fun l x => if (num12 x).2 = true then insI11 l (num12 x).1 else l) []
theorem files_fold12 : ∀ (l : List ByteArray) (a : List Int), upI11 a → upI11 (l.foldl (fun l x => if (num12 x).2 = true then insI11 l (num12 x).1 else l) a) ∧ (l.foldl (fun l x => if (num12 x).2 = true then insI11 l (num12 x).1 else l) a).Perm (numsL12 l ++ a)
  | [], a, h => ⟨h, List.Perm.refl _⟩
  | x :: l, a, h => by
    rw [List.foldl_cons]
    by_cases hx : (num12 x).2 = true
    · rw [if_pos hx]
      obtain ⟨h1, h2⟩ := files_fold12 l (insI11 a (num12 x).1) (insI_up h _)
      refine ⟨h1, h2.trans ?_⟩
      have e : numsL12 (x :: l) = (num12 x).1 :: numsL12 l := by unfold numsL12; rw [List.filter_cons_of_pos (by simpa using hx), List.map_cons]
      rw [e, List.cons_append]
      exact ((List.Perm.append_left _ (insI_perm a (num12 x).1)).trans List.perm_middle)
    · rw [if_neg hx]
      have e : numsL12 (x :: l) = numsL12 l := by unfold numsL12; rw [List.filter_cons_of_neg (by simpa using hx)]
      rw [e]
      exact files_fold12 l a h
theorem sort_files12 (l : List ByteArray) : ((numsL12 l).mergeSort fun x y => decide (x ≤ y)) = files12 l := by
  obtain ⟨h1, h2⟩ := files_fold12 l [] List.Pairwise.nil
  rw [List.append_nil] at h2
  refine List.Perm.eq_of_pairwise (le := fun a b => a ≤ b) ?_ ?_ h1 ((List.mergeSort_perm _ _).trans h2.symm)
  · intro a b _ _ h1 h2
    omega
  · have := List.pairwise_mergeSort (le := fun x y : Int => decide (x ≤ y)) (by intro a b c h1 h2; simp at *; omega) (by intro a b; simp; omega) (numsL12 l)
    exact this.imp fun h => by simpa using h
theorem numsL_snoc12 {l : List ByteArray} {j : Nat} (h : j < l.length) : numsL12 (l.take (j + 1)) = if (num12 (l.getD j ByteArray.empty)).2 = true then numsL12 (l.take j) ++ [(num12 (l.getD j ByteArray.empty)).1] else numsL12 (l.take j) := by
  have e : l.take (j + 1) = l.take j ++ [l.getD j ByteArray.empty] := by
    rw [List.take_add_one, List.getElem?_eq_getElem h, List.getD_eq_getElem?_getD, List.getElem?_eq_getElem h]
    rfl
  unfold numsL12
  rw [e, List.filter_append, List.map_append]
  by_cases hx : (num12 (l.getD j ByteArray.empty)).2 = true
  · rw [if_pos hx, List.filter_cons_of_pos (by simpa using hx)]
    rfl
  · rw [if_neg hx, List.filter_cons_of_neg (by simpa using hx), List.filter_nil, List.map_nil, List.append_nil]

theorem numsL12_len (l : List ByteArray) : (numsL12 l).length ≤ l.length := by
  unfold numsL12
  rw [List.length_map]
  exact List.length_filter_le _ _
theorem files12_perm (l : List ByteArray) : (files12 l).Perm (numsL12 l) := by
  have := (files_fold12 l [] List.Pairwise.nil).2
  rw [List.append_nil] at this
  exact this
theorem files12_mem {l : List ByteArray} {a : Int} (h : a ∈ files12 l) : 1 ≤ a ∧ a ≤ 999999999 ∧ nameB12 a ∈ l := by
  have h2 := (files12_perm l).subset h
  unfold numsL12 at h2
  obtain ⟨x, hx, rfl⟩ := List.mem_map.1 h2
  obtain ⟨hm, hn⟩ := List.mem_filter.1 hx
  have hn' : (num12 x).2 = true := by simpa using hn
  have := num_ok12 hn'
  exact ⟨this.1, this.2.1, by rw [num_name12 hn']; exact hm⟩
theorem files12_up (l : List ByteArray) : upI11 (files12 l) := (files_fold12 l [] List.Pairwise.nil).1
theorem files12_len (l : List ByteArray) : (files12 l).length ≤ l.length := by
  rw [(files12_perm l).length_eq]
  exact numsL12_len l
def headB12 (s : Snap10) (b : List Int) : List Int := zigB s.i ++ zigB s.t ++ numB (b.length : Int) ++ numB (sumS b)
def piece12 (xs : List Int) (j : Nat) : List Int := (xs.drop (4096 * j)).take 4096
def npiece12 (xs : List Int) : Nat := (xs.length + 4095) / 4096
def pieces12 (xs : List Int) : List (List Int) := (List.range (npiece12 xs)).map (piece12 xs)
def chunks12 (s : Snap10) : List (List Int) := frameB (headB12 s (snapB s)) :: (pieces12 (snapB s)).map frameB
def whole12 (s : Snap10) : List Int := (chunks12 s).flatten
def contF12 : Nat → List Int → List (List Int)
  | 0, _ => []
  | f + 1, xs => if (unframeS xs).2.2 = 0 then (unframeS xs).1 :: contF12 f (xs.drop (unframeS xs).2.1.toNat) else []
def conts12 (xs : List Int) : List (List Int) := contF12 xs.length xs
def readS12 (xs : List Int) : Snap10 × Int := whole10 goodS10 noS10 (snap10 9 (xs, false))
def data12 (b : List Int) : List Int := (conts12 (b.drop (unframeS b).2.1.toNat)).flatten
def join12 (b : List Int) : Snap10 × Int := if (readS12 (data12 b)).2 = 0 ∧ whole12 (readS12 (data12 b)).1 = b then ((readS12 (data12 b)).1, 0) else (noS10, 8)

theorem piece_take (xs : List Int) : ∀ k, ((List.range k).map (piece12 xs)).flatten = xs.take (4096 * k)
  | 0 => by simp
  | k + 1 => by
    rw [List.range_succ, List.map_append, List.flatten_append, piece_take xs k, List.map_singleton, List.flatten_singleton, Nat.mul_succ, List.take_add]
    rfl
theorem pieces_flat (xs : List Int) : (pieces12 xs).flatten = xs := by
  unfold pieces12 npiece12
  rw [piece_take, List.take_of_length_le (by omega)]
theorem piece_len (xs : List Int) (j : Nat) : (piece12 xs j).length ≤ 4096 := by
  unfold piece12
  rw [List.length_take]
  omega
theorem pieces_len {xs p : List Int} (h : p ∈ pieces12 xs) : p.length ≤ 4096 := by
  obtain ⟨j, -, rfl⟩ := List.mem_map.1 h
  exact piece_len xs j
theorem piece_isB {xs : List Int} (h : IsB xs) (j : Nat) : IsB (piece12 xs j) := fun z hz => h z (List.mem_of_mem_drop (List.mem_of_mem_take hz))
theorem npiece_lt {xs : List Int} {j : Nat} : 4096 * j < xs.length ↔ j < npiece12 xs := by
  unfold npiece12
  omega
theorem head_len (s : Snap10) (b : List Int) : 4 ≤ (headB12 s b).length ∧ (headB12 s b).length ≤ 36 := by
  unfold headB12
  simp only [List.length_append]
  have h1 := numB_le (zigS s.i)
  have h2 := numB_le (zigS s.t)
  have h3 := numB_le (b.length : Int)
  have h4 := numB_le (sumS b)
  have p1 := numB_pos (zigS s.i)
  have p2 := numB_pos (zigS s.t)
  have p3 := numB_pos (b.length : Int)
  have p4 := numB_pos (sumS b)
  show 4 ≤ (numB (zigS s.i)).length + (numB (zigS s.t)).length + _ + _ ∧ (numB (zigS s.i)).length + (numB (zigS s.t)).length + _ + _ ≤ 36
  omega
theorem head_isB (s : Snap10) (b : List Int) : IsB (headB12 s b) := IsB.append (IsB.append (IsB.append (zigB_isB _) (zigB_isB _)) (numB_isB _)) (numB_isB _)
theorem contF_fuel : ∀ (f g : Nat) (xs : List Int), xs.length ≤ f → xs.length ≤ g → contF12 f xs = contF12 g xs
  | 0, 0, _, _, _ => rfl
  | 0, g + 1, xs, hf, _ => by
    have : xs = [] := List.eq_nil_of_length_eq_zero (by omega)
    subst this
    rfl
  | f + 1, 0, xs, _, hg => by
    have : xs = [] := List.eq_nil_of_length_eq_zero (by omega)
    subst this
    rfl
  | f + 1, g + 1, xs, hf, hg => by
    unfold contF12
    by_cases hc : (unframeS xs).2.2 = 0
    · have hl := unframe_len hc
      have := contF_fuel f g (xs.drop (unframeS xs).2.1.toNat) (by rw [List.length_drop]; omega) (by rw [List.length_drop]; omega)
      rw [if_pos hc, if_pos hc, this]
    · rw [if_neg hc, if_neg hc]
theorem conts_none {xs : List Int} (h : ¬ (unframeS xs).2.2 = 0) : conts12 xs = [] := by
  unfold conts12
  cases hn : xs.length with
  | zero => rfl
  | succ n => unfold contF12; rw [if_neg h]
theorem conts_cons {xs : List Int} (h : (unframeS xs).2.2 = 0) : conts12 xs = (unframeS xs).1 :: conts12 (xs.drop (unframeS xs).2.1.toNat) := by
  have hl := unframe_len h
  unfold conts12
  cases hn : xs.length with
  | zero => omega
  | succ n =>
    rw [contF12, if_pos h, contF_fuel n (xs.drop (unframeS xs).2.1.toNat).length _ (by rw [List.length_drop]; omega) (Nat.le_refl _)]
theorem conts_frames : ∀ l : List (List Int), (∀ x ∈ l, x.length ≤ 1048576) → conts12 (l.map frameB).flatten = l
  | [], _ => rfl
  | x :: l, h => by
    have hx := h x (List.mem_cons_self ..)
    rw [List.map_cons, List.flatten_cons]
    have hu := unframe_frame x (l.map frameB).flatten hx
    rw [conts_cons (by rw [hu]), hu]
    dsimp only
    rw [show ((x.length : Int) + 8).toNat = (frameB x).length by rw [frameB_length]; omega, List.drop_left, conts_frames l fun y hy => h y (List.mem_cons_of_mem _ hy)]
theorem conts_flat (xs : List Int) : (conts12 xs).flatten.length ≤ xs.length := by
  suffices h : ∀ n xs, xs.length ≤ n → (conts12 xs).flatten.length ≤ xs.length from h _ xs (Nat.le_refl _)
  intro n
  induction n with
  | zero =>
    intro xs h
    rw [List.eq_nil_of_length_eq_zero (Nat.le_zero.1 h)]
    exact Nat.zero_le _
  | succ n ih =>
    intro xs h
    by_cases hc : (unframeS xs).2.2 = 0
    · have hl := unframe_len hc
      rw [conts_cons hc, List.flatten_cons, List.length_append]
      have := ih (xs.drop (unframeS xs).2.1.toNat) (by rw [List.length_drop]; omega)
      rw [List.length_drop] at this
      omega
    · rw [conts_none hc]
      exact Nat.zero_le _
theorem whole_eq (s : Snap10) : whole12 s = frameB (headB12 s (snapB s)) ++ ((pieces12 (snapB s)).map frameB).flatten := by
  unfold whole12 chunks12
  rw [List.flatten_cons]
theorem good_few {s : Snap10} (hg : goodS10 s = true) : s.f.vs.length ≤ 9 ∧ s.f.ls.length ≤ 9 ∧ s.d.length ≤ 1048576 := by
  unfold goodS10 at hg
  simp only [Bool.and_eq_true, decide_eq_true_eq] at hg
  obtain ⟨p1, p2, -⟩ := goodF10_parts hg.1.2
  exact ⟨rises10_len p1, rises10_len p2, hg.2⟩
theorem readS_good {xs : List Int} (h : (readS12 xs).2 = 0) : goodS10 (readS12 xs).1 = true := whole_zero goodS10 noS10 (snap10 9 (xs, false)) h
theorem join_ok {b : List Int} (h : (join12 b).2 = 0) : goodS10 (join12 b).1 = true ∧ whole12 (join12 b).1 = b := by
  by_cases hc : (readS12 (data12 b)).2 = 0 ∧ whole12 (readS12 (data12 b)).1 = b
  · have e : join12 b = ((readS12 (data12 b)).1, 0) := if_pos hc
    rw [e]
    dsimp only
    exact ⟨readS_good hc.1, hc.2⟩
  · have e : join12 b = (noS10, 8) := if_neg hc
    rw [e] at h
    exact absurd h (by decide)
theorem join_two (b : List Int) : (join12 b).2 = 0 ∨ join12 b = (noS10, 8) := by
  by_cases hc : (readS12 (data12 b)).2 = 0 ∧ whole12 (readS12 (data12 b)).1 = b
  · have e : join12 b = ((readS12 (data12 b)).1, 0) := if_pos hc
    rw [e]
    exact .inl rfl
  · exact .inr (if_neg hc)
theorem whole_len (s : Snap10) : (whole12 s).length = (headB12 s (snapB s)).length + 8 + ((snapB s).length + 8 * npiece12 (snapB s)) := by
  rw [whole_eq, List.length_append, frameB_length]
  have h : ∀ l : List (List Int), ((l.map frameB).flatten).length = l.flatten.length + 8 * l.length := fun l => by
    induction l with
    | nil => rfl
    | cons x l ih => rw [List.map_cons, List.flatten_cons, List.length_append, ih, frameB_length, List.flatten_cons, List.length_append, List.length_cons]; omega
  rw [h, pieces_flat]
  unfold pieces12
  rw [List.length_map, List.length_range]
end Go.Proofs.YthlelcmifolnfaaGreatDoor
