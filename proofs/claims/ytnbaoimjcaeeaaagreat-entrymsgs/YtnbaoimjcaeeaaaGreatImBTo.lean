import Derived.Test.YtnbaoimjcaeeaaaGreatW8To
import Derived.Test.YtnbaoimjcaeeaaaGreatRef3To
import Derived.Test.YtnbaoimjcaeeaaaGreatBaseTo
import Derived.Test.YtnbaoimjcaeeaaaGreatGet0To
import Derived.Test.YtnbaoimjcaeeaaaGreatRef1To
/-
  Contracts: Reader.Count; corbelref01's Reader: pass, Num, Int, Text, Bool, Count, End.
-/
namespace Go.Proofs.YtnbaoimjcaeeaaaGreat
open Go.RowKit

theorem Rd.grown {w w' : World} {rb sb L : Nat} {v : Value} {xs : List Int} {wrong : Bool} (h : Rd w sb L v xs wrong) (hg : w.grownBy w' (some rb)) (hne : sb ≠ rb) (hL : L ≤ rb) : Rd w' sb L v xs wrong := by
  have hb := hg.block sb h.lt (fun e => hne (Option.some.inj e))
  exact ⟨Nat.lt_of_lt_of_le h.lt hg.size, h.le, (World.cell?_of_block (a := ⟨sb, 0, none⟩) hb).trans h.c0, (World.cell?_of_block (a := ⟨sb, 1, none⟩) hb).trans h.c1, (World.frozen?_of_block (a := ⟨sb, 0, none⟩) hb).trans h.f0, (World.frozen?_of_block (a := ⟨sb, 1, none⟩) hb).trans h.f1, h.has.grown hg hL⟩

set_option maxRecDepth 100000 in
set_option maxHeartbeats 1000000 in
theorem next_count_any (m : Int) (bx : Nat) (w : World) (rb L : Nat) (v b : Value) (xs ys : List Int) (wrong : Bool) (h : Rd w rb L v xs wrong) (hb : HasIn w L b ys) (hB : IsB ys) (hy : ys.length ≤ xs.length) (hl : xs.length ≤ 1099511627776) (hm : m ≤ 9223372036854775807) (hc : w.cell? ⟨bx, 0, none⟩ = some (.int .i64 m)) (hbx : bx < w.heap.size) :
    Calls Tryz.prog 140 #[b, .func (.func 144) #[] #[.pointer (some ⟨bx, 0, none⟩)], .func (.func 114) #[.pointer (some ⟨rb, 0, none⟩)] #[]] w fun e w' =>
      e = .returned (.int .i64 (countS m ys).1) ∧ (∃ v', Rd w' rb L v' (loseS xs wrong (countS m ys).2).1 (loseS xs wrong (countS m ys).2).2) ∧ w.grownBy w' (some rb) := by
  have hbd := countS_bd m ys
  have hL := Nat.le_of_lt (Nat.lt_of_le_of_lt h.le h.lt)
  have H : Hid (Rd w rb L v xs wrong) := h
  have hlt := h.lt
  clear h
  go_enter Tryz.func140, Tryz.ntmps140
  go_wp2_with (first
    | (go_at_call 144; refine (upTo1_any m bx _ ys _ hc hbx (hb.has hL) hB (by omega) hm).mono ?_; rintro e w1 ⟨rfl, hb1⟩)
    | (go_at_call 114; refine (lose_any _ rb L _ v xs wrong (H.out.below hb1 hlt) (by omega) hl).mono ?_; rintro e w2 ⟨rfl, hr2, hg2⟩))
  go_ret
  exact ⟨rfl, hr2, grown_trans (grown_of_below hb1 (Nat.le_refl _) _) hg2⟩

set_option maxRecDepth 100000 in
set_option maxHeartbeats 1000000 in
theorem count_any (m : Int) (w : World) (rb L : Nat) (v : Value) (xs : List Int) (wrong : Bool) (h : Rd w rb L v xs wrong) (hB : IsB xs) (hl : xs.length ≤ 1099511627776) (hm : m ≤ 9223372036854775807) :
    Calls Tryz.prog 117 #[.pointer (some ⟨rb, 0, none⟩), .int .i64 m] w fun e w' =>
      e = .returned (.int .i64 (countS m (srcS xs wrong)).1) ∧ (∃ v', Rd w' rb L v' (loseS xs wrong (countS m (srcS xs wrong)).2).1 (loseS xs wrong (countS m (srcS xs wrong)).2).2) ∧ w.grownBy w' (some rb) := by
  have hba : Below w.heap.size w (w.alloc (.cells #[.int .i64 m] 3)) := (Below.refl w.heap.size w).alloc (Nat.le_refl _) _
  have H : Hid (Rd w rb L v xs wrong) := h
  have hlt := h.lt
  have hL := Nat.le_of_lt (Nat.lt_of_le_of_lt h.le h.lt)
  clear h
  go_enter Tryz.func117, Tryz.ntmps117
  go_wp2_with (first
    | (go_at_call 112; refine rest_src _ rb L v xs wrong H.out ?_; intro b0 hb0)
    | (go_at_call 141; refine (upTo_any _ _).mono ?_; rintro e w' ⟨rfl, rfl⟩)
    | (go_at_call 140; refine (next_count_any m _ _ rb L v _ xs (srcS xs wrong) wrong (H.out.below hba hlt) (hb0.below hba hL) (srcS_isB hB _) (srcS_length _ _) hl hm (by simp) (by simp)).mono ?_; rintro e w1 ⟨rfl, hr1, hg1⟩))
  go_ret
  exact ⟨rfl, hr1, grown_trans (grown_of_below hba (Nat.le_refl _) _) hg1⟩

/-- A reader that went wrong has nothing left. -/
def Inv (xs : List Int) (wrong : Bool) : Prop := wrong = true → xs = []
theorem Inv.src {xs : List Int} {wrong : Bool} (h : Inv xs wrong) : srcS xs wrong = xs := by
  cases wrong
  · rfl
  · rw [h rfl]; rfl
theorem Inv.lose {xs : List Int} {wrong : Bool} (h : Inv xs wrong) (n : Nat) : Inv (loseS xs wrong n).1 (loseS xs wrong n).2 := by
  unfold loseS; split
  · exact fun _ => rfl
  · intro hw
    simp only at hw
    rw [h hw]; simp

set_option maxRecDepth 100000 in
set_option maxHeartbeats 1000000 in
theorem rpass_no (w : World) (rb L : Nat) (n : Int) (v : Value) (xs : List Int) (wrong : Bool) (h : Rd w rb L v xs wrong) (hn : wrong = true ∨ n = 0) :
    Calls Tryz.prog 83 #[.pointer (some ⟨rb, 0, none⟩), .int .i64 n] w fun e w' => e = .returned (.bool false) ∧ (∃ v', Rd w' rb L v' [] true) ∧ w.grownBy w' (some rb) := by
  have c0 := h.c0
  have c1 := h.c1
  have f0 := h.f0
  have f1 := h.f1
  have H : Hid (Rd w rb L v xs wrong) := h
  clear h
  cases wrong
  · obtain rfl : n = 0 := by rcases hn with h | h; · cases h
                             · exact h
    go_enter Tryz.func83, Tryz.ntmps83
    go_wp2
    go_ret
    have h1 := H.out.setW true
    exact ⟨rfl, ⟨_, h1.setB (HasIn.nil _ L)⟩, grown_trans (grown_set _ _ _ _) (grown_set _ _ _ _)⟩
  · go_enter Tryz.func83, Tryz.ntmps83
    go_wp2
    go_ret
    have h1 := H.out.setW true
    exact ⟨rfl, ⟨_, h1.setB (HasIn.nil _ L)⟩, grown_trans (grown_set _ _ _ _) (grown_set _ _ _ _)⟩

set_option maxRecDepth 100000 in
set_option maxHeartbeats 1000000 in
theorem rpass_yes (w : World) (rb L n : Nat) (v : Value) (xs : List Int) (h : Rd w rb L v xs false) (h0 : 0 < n) (hn : n ≤ xs.length) (hl : xs.length ≤ 1099511627776) :
    Calls Tryz.prog 83 #[.pointer (some ⟨rb, 0, none⟩), .int .i64 n] w fun e w' => e = .returned (.bool true) ∧ (∃ v', Rd w' rb L v' (xs.drop n) false) ∧ w.grownBy w' (some rb) := by
  have c0 := h.c0
  have c1 := h.c1
  have f0 := h.f0
  have H : Hid (Rd w rb L v xs false) := h
  obtain ⟨p, c, rfl, hc, hnone, hcell⟩ := h.has
  clear h hnone
  obtain ⟨b, o, rfl, hbl, hcl⟩ := hcell (by omega)
  have hnb : ((n : Int) == 0) = false := by rw [beq_eq_false_iff_ne]; omega
  have hlen : (xs.drop n).length = xs.length - n := by simp
  by_cases hcn : c = n
  · have hz : (xs.drop n).length = 0 := by omega
    have hv' : HasIn w L (.slice (some ⟨b, o, none⟩) 0 0) (xs.drop n) := ⟨_, _, by rw [hz], by omega, (fun h => by cases h), fun h0 => by omega⟩
    have HV : Hid (HasIn w L (.slice (some ⟨b, o, none⟩) 0 0) (xs.drop n)) := hv'
    clear hv' hlen hcl hcell hz
    subst hcn
    go_enter Tryz.func83, Tryz.ntmps83
    go_wp2
    go_ret
    exact ⟨rfl, ⟨_, H.out.setB HV.out⟩, grown_set _ _ _ _⟩
  · have hv' : HasIn w L (.slice (some ⟨b, o + n, none⟩) (xs.length - n) (c - n)) (xs.drop n) := ⟨_, _, by rw [hlen], by omega, (fun h => by cases h), fun h0 => ⟨b, o + n, rfl, hbl, fun i hi => by
      rw [Nat.add_assoc, hcl (n + i) (by omega)]
      simp⟩⟩
    have HV : Hid (HasIn w L (.slice (some ⟨b, o + n, none⟩) (xs.length - n) (c - n)) (xs.drop n)) := hv'
    clear hv' hlen hcl hcell
    go_enter Tryz.func83, Tryz.ntmps83
    go_wp2
    go_ret
    exact ⟨rfl, ⟨_, H.out.setB HV.out⟩, grown_set _ _ _ _⟩
end Go.Proofs.YtnbaoimjcaeeaaaGreat

/-
  Plain mathematics: pairs in bytes, and the pairs that bytes tell.
-/
namespace Go.Proofs.YtnbaoimjcaeeaaaGreat
open Go.RowKit

def pairB (p : ByteArray × ByteArray) : List Int := textB p.1 ++ textB p.2
def pairsB (l : List (ByteArray × ByteArray)) : List Int := (l.map pairB).flatten
def expB (l : List (ByteArray × ByteArray)) : List Int := numB (l.length : Int) ++ pairsB l
theorem pairsB_cons (p : ByteArray × ByteArray) (l : List (ByteArray × ByteArray)) : pairsB (p :: l) = pairB p ++ pairsB l := by simp [pairsB]
theorem pairsB_append (l m : List (ByteArray × ByteArray)) : pairsB (l ++ m) = pairsB l ++ pairsB m := by simp [pairsB]
theorem pairsB_snoc (l : List (ByteArray × ByteArray)) (p : ByteArray × ByteArray) : pairsB (l ++ [p]) = pairsB l ++ textB p.1 ++ textB p.2 := by simp [pairsB, pairB]
theorem textB_isB (s : ByteArray) : IsB (textB s) := IsB.append (numB_isB _) (strB_isB _)
theorem pairB_isB (p : ByteArray × ByteArray) : IsB (pairB p) := IsB.append (textB_isB _) (textB_isB _)
theorem pairsB_isB : ∀ l : List (ByteArray × ByteArray), IsB (pairsB l)
  | [] => IsB.nil
  | p :: l => by rw [pairsB_cons]; exact IsB.append (pairB_isB p) (pairsB_isB l)
theorem expB_isB (l : List (ByteArray × ByteArray)) : IsB (expB l) := IsB.append (numB_isB _) (pairsB_isB l)
theorem textB_length (s : ByteArray) : (textB s).length ≤ s.size + 9 := by
  unfold textB
  rw [List.length_append, strB_length]
  have := numB_le s.size
  omega
theorem pairsB_length {m : Nat} : ∀ {l : List (ByteArray × ByteArray)}, (∀ p ∈ l, p.1.size ≤ m ∧ p.2.size ≤ m) → (pairsB l).length ≤ l.length * (2 * m + 18)
  | [], _ => by simp [pairsB]
  | p :: l, h => by
    have ih := pairsB_length (l := l) (m := m) fun q hq => h q (List.mem_cons_of_mem _ hq)
    have h1 := h p List.mem_cons_self
    have h2 := textB_length p.1
    have h3 := textB_length p.2
    rw [pairsB_cons, List.length_append, List.length_cons, Nat.add_mul]
    unfold pairB
    rw [List.length_append]
    omega

theorem str_back (s : ByteArray) : strOfNums (strB s) = s := by
  unfold strB
  rw [strOfNums_bytes]
theorem getText_textB (s : ByteArray) (r : List Int) (h : s.size < 18446744073709551616) : getTextS (textB s ++ r) = (strB s, (textB s).length) := by
  have := getTextS_put (strB s) r (by rw [strB_length]; exact h)
  rw [strB_length] at this
  unfold textB
  rw [this, List.length_append, strB_length]
theorem textB_pos (s : ByteArray) : 0 < (textB s).length := by
  have := numB_length (s.size : Int)
  unfold textB
  rw [List.length_append]
  omega

/-- A reader's pair, and what is left behind it. -/
def pairS (s : List Int × Bool) : (ByteArray × ByteArray) × (List Int × Bool) :=
  let s1 := loseS s.1 s.2 (getTextS s.1).2
  ((strOfNums (getTextS s.1).1, strOfNums (getTextS s1.1).1), loseS s1.1 s1.2 (getTextS s1.1).2)
/-- So many pairs, and what is left. -/
def rdN : Nat → List Int × Bool → List (ByteArray × ByteArray) × (List Int × Bool)
  | 0, s => ([], s)
  | n + 1, s => ((rdN n s).1 ++ [(pairS (rdN n s).2).1], (pairS (rdN n s).2).2)
theorem rdN_len (n : Nat) (s : List Int × Bool) : (rdN n s).1.length = n := by
  induction n with
  | zero => rfl
  | succ n ih => simp [rdN, ih]
theorem rdN_pre (s : List Int × Bool) {m n : Nat} (h : m ≤ n) : (rdN m s).1 <+: (rdN n s).1 := by
  induction n with
  | zero => obtain rfl : m = 0 := by omega
            exact List.prefix_refl _
  | succ n ih =>
    by_cases e : m = n + 1
    · subst e; exact List.prefix_refl _
    · exact (ih (by omega)).trans (List.prefix_append _ _)
theorem loseS_wrong (xs : List Int) (n : Nat) : (loseS xs true n).2 = true := by unfold loseS; split <;> rfl
theorem pairS_wrong (xs : List Int) : (pairS (xs, true)).2.2 = true := by
  have h1 := loseS_wrong xs (getTextS xs).2
  unfold pairS
  simp only
  rw [h1]
  exact loseS_wrong _ _
theorem rdN_wrong (s : List Int × Bool) {m n : Nat} (h : m ≤ n) (hw : (rdN m s).2.2 = true) : (rdN n s).2.2 = true := by
  induction n with
  | zero => obtain rfl : m = 0 := by omega
            exact hw
  | succ n ih =>
    by_cases e : m = n + 1
    · subst e; exact hw
    · have := ih (by omega)
      show (pairS (rdN n s).2).2.2 = true
      generalize (rdN n s).2 = q at this ⊢
      obtain ⟨a, b⟩ := q
      obtain rfl : b = true := this
      exact pairS_wrong a
theorem Inv.pair {s : List Int × Bool} (h : Inv s.1 s.2) : Inv (pairS s).2.1 (pairS s).2.2 := by
  unfold pairS
  exact Inv.lose (Inv.lose h _) _
theorem rdN_inv {s : List Int × Bool} (h : Inv s.1 s.2) : ∀ n, Inv (rdN n s).2.1 (rdN n s).2.2
  | 0 => h
  | n + 1 => (rdN_inv h n).pair
theorem pairS_isB {s : List Int × Bool} (h : IsB s.1) : IsB (pairS s).2.1 := loseS_isB (loseS_isB h _ _) _ _
theorem rdN_isB {s : List Int × Bool} (h : IsB s.1) : ∀ n, IsB (rdN n s).2.1
  | 0 => h
  | n + 1 => pairS_isB (rdN_isB h n)
theorem pairS_length (s : List Int × Bool) : (pairS s).2.1.length ≤ s.1.length := Nat.le_trans (loseS_length _ _ _) (loseS_length _ _ _)
theorem rdN_length (s : List Int × Bool) : ∀ n, (rdN n s).2.1.length ≤ s.1.length
  | 0 => Nat.le_refl _
  | n + 1 => Nat.le_trans (pairS_length _) (rdN_length s n)
theorem strOfNums_size (xs : List Int) : (strOfNums xs).size = xs.length := by
  simp [strOfNums, ByteArray.size]
theorem pairS_size (s : List Int × Bool) : (pairS s).1.1.size ≤ s.1.length ∧ (pairS s).1.2.size ≤ s.1.length := by
  unfold pairS
  simp only
  rw [strOfNums_size, strOfNums_size]
  exact ⟨(getTextS_bd _).2, Nat.le_trans (getTextS_bd _).2 (loseS_length _ _ _)⟩
theorem rdN_size (s : List Int × Bool) : ∀ n, ∀ p ∈ (rdN n s).1, p.1.size ≤ s.1.length ∧ p.2.size ≤ s.1.length
  | 0 => fun p h => by cases h
  | n + 1 => fun p h => by
    rcases List.mem_append.1 h with h | h
    · exact rdN_size s n p h
    · rw [List.mem_singleton] at h
      subst h
      have h1 := pairS_size (rdN n s).2
      have h2 := rdN_length s n
      omega

/-- Does each key come behind the one ahead of it? -/
def riseB : List (ByteArray × ByteArray) → Bool
  | [] => true
  | [_] => true
  | a :: b :: l => ltT a.1 b.1 && riseB (b :: l)
theorem riseB_iff : ∀ l : List (ByteArray × ByteArray), riseB l = true ↔ Rise l
  | [] => ⟨fun _ => Rise.nil, fun _ => rfl⟩
  | [a] => ⟨fun _ => List.pairwise_singleton _ _, fun _ => rfl⟩
  | a :: b :: l => by
    have ih := riseB_iff (b :: l)
    unfold riseB
    rw [Bool.and_eq_true, ih]
    constructor
    · rintro ⟨h1, h2⟩
      refine List.pairwise_cons.2 ⟨fun q hq => ?_, h2⟩
      rcases List.mem_cons.1 hq with rfl | hq
      · exact h1
      · exact ltT_trans h1 ((List.pairwise_cons.1 h2).1 q hq)
    · intro h
      obtain ⟨h1, h2⟩ := List.pairwise_cons.1 h
      exact ⟨h1 b List.mem_cons_self, h2⟩
theorem rise_snoc {l : List (ByteArray × ByteArray)} {q p : ByteArray × ByteArray} : Rise (l ++ [q] ++ [p]) ↔ Rise (l ++ [q]) ∧ ltT q.1 p.1 = true := by
  unfold Rise
  rw [List.pairwise_append]
  constructor
  · rintro ⟨h1, _, h3⟩
    exact ⟨h1, h3 q (by simp) p (by simp)⟩
  · rintro ⟨h1, h2⟩
    refine ⟨h1, List.pairwise_singleton _ _, fun a ha b hb => ?_⟩
    rw [List.mem_singleton] at hb
    subst hb
    rcases List.mem_append.1 ha with ha | ha
    · exact ltT_trans ((List.pairwise_append.1 h1).2.2 a ha q (by simp)) h2
    · rw [List.mem_singleton] at ha
      subst ha
      exact h2

/-- What a reader of bytes comes to behind its count. -/
def rd0 (xs : List Int) : List Int × Bool := loseS xs false (countS 2000 xs).2
def rdC (xs : List Int) : Nat := (countS 2000 xs).1.toNat
def rdE (xs : List Int) : List (ByteArray × ByteArray) × (List Int × Bool) := rdN (rdC xs) (rd0 xs)
/-- Are these bytes what Export tells? -/
def rdOk (xs : List Int) : Bool := ((rdE xs).2.1.isEmpty && !(rdE xs).2.2) && riseB (rdE xs).1
theorem countS_range (m : Int) (xs : List Int) (hm : 0 ≤ m) : 0 ≤ (countS m xs).1 ∧ (countS m xs).1 ≤ m := by
  have := getS_bd xs
  unfold countS
  split
  · simp; omega
  · omega
theorem rdC_le (xs : List Int) : rdC xs ≤ 2000 ∧ ((rdC xs : Nat) : Int) = (countS 2000 xs).1 := by
  have := countS_range 2000 xs (by omega)
  unfold rdC
  omega
theorem inv_rd0 (xs : List Int) : Inv (rd0 xs).1 (rd0 xs).2 := by
  unfold rd0
  exact Inv.lose (fun h => by cases h) _
theorem rd0_length (xs : List Int) : (rd0 xs).1.length ≤ xs.length := loseS_length _ _ _
theorem rd0_isB {xs : List Int} (h : IsB xs) : IsB (rd0 xs).1 := loseS_isB h _ _
theorem rdE_rise {xs : List Int} (h : rdOk xs = true) : Rise (rdE xs).1 := by
  unfold rdOk at h
  rw [Bool.and_eq_true] at h
  exact (riseB_iff _).1 h.2
theorem rdE_len (xs : List Int) : (rdE xs).1.length ≤ 2000 := by
  unfold rdE
  rw [rdN_len]
  exact (rdC_le xs).1
theorem rd_bad_wrong {xs : List Int} {j : Nat} (hj : j ≤ rdC xs) (hw : (rdN j (rd0 xs)).2.2 = true) : rdOk xs = false := by
  have := rdN_wrong (rd0 xs) hj hw
  unfold rdOk rdE
  rw [this]
  simp
theorem rd_bad_rise {xs : List Int} {j : Nat} (hj : j ≤ rdC xs) (hw : ¬ Rise (rdN j (rd0 xs)).1) : rdOk xs = false := by
  cases h : rdOk xs with
  | false => rfl
  | true => exact absurd (List.Pairwise.sublist (rdN_pre (rd0 xs) hj).sublist (rdE_rise h)) hw

theorem lose_back (a r : List Int) (h : 0 < a.length) : loseS (a ++ r) false a.length = (r, false) := by
  unfold loseS
  rw [if_neg (by omega), List.drop_left]
theorem pairS_back (p : ByteArray × ByteArray) (r : List Int) (h1 : p.1.size < 18446744073709551616) (h2 : p.2.size < 18446744073709551616) : pairS (pairB p ++ r, false) = (p, (r, false)) := by
  unfold pairS pairB
  simp only
  rw [List.append_assoc, getText_textB _ _ h1, lose_back _ _ (textB_pos _)]
  simp only
  rw [getText_textB _ _ h2, lose_back _ _ (textB_pos _), str_back, str_back]
def SmallP (l : List (ByteArray × ByteArray)) : Prop := ∀ p ∈ l, p.1.size < 18446744073709551616 ∧ p.2.size < 18446744073709551616
theorem rdN_back (l : List (ByteArray × ByteArray)) (r : List Int) (h : SmallP l) : ∀ n, n ≤ l.length → rdN n (pairsB l ++ r, false) = (l.take n, (pairsB (l.drop n) ++ r, false))
  | 0, _ => by simp [rdN]
  | n + 1, hn => by
    have ih := rdN_back l r h n (by omega)
    have e : l.drop n = l[n] :: l.drop (n + 1) := List.drop_eq_getElem_cons (by omega)
    have hm := h l[n] (List.getElem_mem _)
    rw [rdN, ih]
    simp only
    rw [e, pairsB_cons, List.append_assoc, pairS_back _ _ hm.1 hm.2, List.take_succ_eq_append_getElem (by omega)]
theorem exp_count {l : List (ByteArray × ByteArray)} (hl : l.length ≤ 2000) : countS 2000 (expB l) = ((l.length : Int), (numB (l.length : Int)).length) := by
  have hg := getS_numB (l.length : Int) (by omega) (by omega) (pairsB l)
  unfold countS expB
  rw [hg]
  simp only
  rw [if_neg (by omega), numB_length]
theorem numB_pos (u : Int) : 0 < (numB u).length := by rw [numB_length]; omega
/-- What Export tells is read back. -/
theorem read_back {l : List (ByteArray × ByteArray)} (hl : l.length ≤ 2000) (h : SmallP l) (hr : Rise l) : rdE (expB l) = (l, ([], false)) ∧ rdOk (expB l) = true := by
  have hc := exp_count hl
  have e : rdE (expB l) = (l, ([], false)) := by
    unfold rdE rdC rd0
    rw [hc]
    simp only [Int.toNat_natCast]
    rw [show loseS (expB l) false (numB (l.length : Int)).length = (pairsB l, false) from lose_back _ _ (numB_pos _)]
    have := rdN_back l [] h l.length (Nat.le_refl _)
    rw [List.append_nil, List.take_length, List.drop_length] at this
    rw [this]
    simp [pairsB]
  refine ⟨e, ?_⟩
  unfold rdOk
  rw [e]
  simp only [List.isEmpty_nil, Bool.not_false, Bool.and_self, Bool.true_and]
  exact (riseB_iff l).2 hr
/-- Unlike pairs have unlike bytes. -/
theorem exp_inj {l m : List (ByteArray × ByteArray)} (h1 : SmallP l) (h2 : SmallP m) (hl : l.length < 18446744073709551616) (hm : m.length < 18446744073709551616) (h : expB l = expB m) : l = m := by
  have g1 := getS_numB (l.length : Int) (by omega) (by omega) (pairsB l)
  have g2 := getS_numB (m.length : Int) (by omega) (by omega) (pairsB m)
  unfold expB at h
  rw [h, g2] at g1
  have hlen : l.length = m.length := by
    have := (Prod.mk.inj g1).1
    omega
  rw [hlen] at h
  have hp := List.append_cancel_left h
  have r1 := rdN_back l [] h1 l.length (Nat.le_refl _)
  have r2 := rdN_back m [] h2 m.length (Nat.le_refl _)
  rw [hp, hlen] at r1
  rw [r2] at r1
  have := (Prod.mk.inj r1).1
  rw [List.take_length, ← hlen, List.take_length] at this
  exact this.symm
theorem exp_beq {l m : List (ByteArray × ByteArray)} (h1 : SmallP l) (h2 : SmallP m) (hl : l.length < 18446744073709551616) (hm : m.length < 18446744073709551616) : (expB l == expB m) = decide (l = m) := by
  by_cases h : l = m
  · subst h; simp
  · have : expB l ≠ expB m := fun e => h (exp_inj h1 h2 hl hm e)
    simp [h, this]
end Go.Proofs.YtnbaoimjcaeeaaaGreat
