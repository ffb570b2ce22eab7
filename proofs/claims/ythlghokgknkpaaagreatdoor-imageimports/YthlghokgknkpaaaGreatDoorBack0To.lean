import Derived.Test.YthlghokgknkpaaaGreatDoorW5To
import Derived.Test.YthlghokgknkpaaaGreatDoorW7To
import Derived.Laws.BytesArg
/-
  Contracts: a nil Reader.
-/
namespace Go.Proofs.YthlghokgknkpaaaGreatDoor
open Go.RowKit

set_option maxRecDepth 100000 in
set_option maxHeartbeats 1000000 in
theorem rest_nil (w : World) : Calls Tryz.prog 125 #[.pointer none] w fun e w' => e = .returned (.slice none 0 0) ∧ w' = w := by
  go_enter Tryz.func125, Tryz.ntmps125
  go_wp2
  go_ret
  exact ⟨rfl, rfl⟩

set_option maxRecDepth 100000 in
set_option maxHeartbeats 1000000 in
theorem lose_nil (n : Int) (w : World) : Calls Tryz.prog 127 #[.pointer none, .int .i64 n] w fun e w' => e = .returned (.tuple #[]) ∧ w' = w := by
  go_enter Tryz.func127, Tryz.ntmps127
  go_wp2
  go_end0
  exact ⟨rfl, rfl⟩

set_option maxRecDepth 100000 in
set_option maxHeartbeats 1000000 in
theorem get_nil (w : World) : Calls Tryz.prog 145 #[.slice none 0 0] w fun e w' => e = .returned (.tuple #[.int .u64 0, .int .i64 0]) ∧ w' = w := by
  go_enter Tryz.func145, Tryz.ntmps145
  go_wp2
  go_ret2
  exact ⟨rfl, rfl⟩

set_option maxRecDepth 100000 in
set_option maxHeartbeats 1000000 in
theorem getText_nil (w : World) : Calls Tryz.prog 129 #[.slice none 0 0] w fun e w' => e = .returned (.tuple #[.string ⟨#[]⟩, .int .i64 0]) ∧ w' = w := by
  go_enter Tryz.func129, Tryz.ntmps129
  go_wp2_with (go_at_call 145; refine same_mono (get_nil _) ?_)
  go_ret2
  exact ⟨rfl, rfl⟩

set_option maxRecDepth 100000 in
set_option maxHeartbeats 1000000 in
theorem next_text_nil (w : World) : Calls Tryz.prog 128 #[.slice none 0 0, .func (.func 129) #[] #[], .func (.func 127) #[.pointer none] #[]] w fun e w' => e = .returned (.string ⟨#[]⟩) ∧ w' = w := by
  go_enter Tryz.func128, Tryz.ntmps128
  go_wp2_with (first
    | (go_at_call 129; refine same_mono (getText_nil _) ?_)
    | (go_at_call 127; refine same_mono (lose_nil _ _) ?_))
  go_ret
  exact ⟨rfl, rfl⟩

set_option maxRecDepth 100000 in
set_option maxHeartbeats 1000000 in
theorem text_nil (w : World) : Calls Tryz.prog 91 #[.pointer none] w fun e w' => e = .returned (.string ⟨#[]⟩) ∧ w' = w := by
  go_enter Tryz.func91, Tryz.ntmps91
  go_wp2_with (first
    | (go_at_call 125; refine same_mono (rest_nil _) ?_)
    | (go_at_call 128; refine same_mono (next_text_nil _) ?_))
  go_ret
  exact ⟨rfl, rfl⟩

theorem zag0 : zagS 0 = 0 := by decide +kernel

set_option maxRecDepth 100000 in
set_option maxHeartbeats 1000000 in
theorem end_nil (w : World) : Calls Tryz.prog 92 #[.pointer none] w fun e w' => e = .returned (.bool false) ∧ w' = w := by
  go_enter Tryz.func92, Tryz.ntmps92
  go_wp2
  go_ret
  exact ⟨rfl, rfl⟩

set_option maxRecDepth 100000 in
set_option maxHeartbeats 1000000 in
theorem upTo_any (m : Int) (w : World) : Calls Tryz.prog 126 #[.int .i64 m] w fun e w' => e = .returned (.func (.func 144) #[] #[.pointer (some ⟨w.heap.size, 0, none⟩)]) ∧ w' = w.alloc (.cells #[.int .i64 m] 3) := by
  go_enter Tryz.func126, Tryz.ntmps126
  go_wp2
  go_ret
  exact ⟨rfl, rfl⟩

set_option maxRecDepth 100000 in
set_option maxHeartbeats 1000000 in
theorem upTo1_nil (m : Int) (b : Nat) (w : World) (hc : w.cell? ⟨b, 0, none⟩ = some (.int .i64 m)) : Calls Tryz.prog 144 #[.slice none 0 0, .pointer (some ⟨b, 0, none⟩)] w fun e w' => e = .returned (.tuple #[.int .i64 0, .int .i64 0]) ∧ w' = w := by
  by_cases hm : m < 0
  · go_enter Tryz.func144, Tryz.ntmps144
    go_wp2_with (go_at_call 145; refine same_mono (get_nil _) ?_)
    go_ret2
    exact ⟨rfl, rfl⟩
  · have hw : 0 ≤ IntKind.u64.wrap m := by rw [IntKind.wrap_u64]; omega
    go_enter Tryz.func144, Tryz.ntmps144
    go_wp2_with (go_at_call 145; refine same_mono (get_nil _) ?_)
    all_goals go_ret2
    all_goals exact ⟨rfl, rfl⟩

set_option maxRecDepth 100000 in
set_option maxHeartbeats 1000000 in
theorem next_count_nil (m : Int) (b : Nat) (w : World) (hc : w.cell? ⟨b, 0, none⟩ = some (.int .i64 m)) : Calls Tryz.prog 124 #[.slice none 0 0, .func (.func 144) #[] #[.pointer (some ⟨b, 0, none⟩)], .func (.func 127) #[.pointer none] #[]] w fun e w' => e = .returned (.int .i64 0) ∧ w' = w := by
  go_enter Tryz.func124, Tryz.ntmps124
  go_wp2_with (first
    | (go_at_call 144; refine same_mono (upTo1_nil m b _ hc) ?_)
    | (go_at_call 127; refine same_mono (lose_nil _ _) ?_))
  go_ret
  exact ⟨rfl, rfl⟩

set_option maxRecDepth 100000 in
set_option maxHeartbeats 1000000 in
theorem count_nil (m : Int) (w : World) : Calls Tryz.prog 90 #[.pointer none, .int .i64 m] w fun e w' => e = .returned (.int .i64 0) ∧ w' = w.alloc (.cells #[.int .i64 m] 3) := by
  go_enter Tryz.func90, Tryz.ntmps90
  go_wp2_with (first
    | (go_at_call 125; refine same_mono (rest_nil _) ?_)
    | (go_at_call 126; refine (upTo_any _ _).mono ?_; rintro e w' ⟨rfl, rfl⟩)
    | (go_at_call 124; refine same_mono (next_count_nil m _ _ (by simp)) ?_))
  go_ret
  exact ⟨rfl, rfl⟩
end Go.Proofs.YthlghokgknkpaaaGreatDoor

/-
  Contracts: a Reader that is not nil: Num, Int, Text, Bool, Count, End.
-/
namespace Go.Proofs.YthlghokgknkpaaaGreatDoor
open Go.RowKit

theorem srcS_isB {xs : List Int} (h : IsB xs) (wrong : Bool) : IsB (srcS xs wrong) := by cases wrong <;> simp [srcS, IsB.nil, h]
theorem srcS_length (xs : List Int) (wrong : Bool) : (srcS xs wrong).length ≤ xs.length := by cases wrong <;> simp [srcS]
theorem Rd.src {w : World} {rb L : Nat} {v : Value} {xs : List Int} {wrong : Bool} (h : Rd w rb L v xs wrong) : HasIn w L (if wrong then .slice none 0 0 else v) (srcS xs wrong) := by
  cases wrong
  · exact h.has
  · exact HasIn.nil w L
theorem loseS_isB {xs : List Int} (h : IsB xs) (wrong : Bool) (n : Nat) : IsB (loseS xs wrong n).1 := by
  unfold loseS; split
  · exact IsB.nil
  · exact fun x hx => h x (List.mem_of_mem_drop hx)
theorem loseS_length (xs : List Int) (wrong : Bool) (n : Nat) : (loseS xs wrong n).1.length ≤ xs.length := by
  unfold loseS; split <;> simp

theorem rest_src {Q : Ending → World → Prop} (w : World) (rb L : Nat) (v : Value) (xs : List Int) (wrong : Bool) (h : Rd w rb L v xs wrong) (hQ : ∀ b, HasIn w L b (srcS xs wrong) → Q (.returned b) w) :
    Calls Tryz.prog 125 #[.pointer (some ⟨rb, 0, none⟩)] w Q :=
  (rest_any w rb L v xs wrong h).mono fun e w' ⟨h1, h2⟩ => by subst h1; subst h2; exact hQ _ h.src

/-- What Count tells of bytes. -/
def countS (m : Int) (ys : List Int) : Int × Nat := if m < 0 ∨ m < (getS ys).1 then (0, 0) else getS ys
theorem countS_bd (m : Int) (ys : List Int) : (countS m ys).2 ≤ ys.length := by
  have := getS_bd ys
  unfold countS; split <;> simp_all

set_option maxRecDepth 100000 in
set_option maxHeartbeats 1000000 in
theorem upTo1_any (m : Int) (bx : Nat) (b : Value) (ys : List Int) (w : World) (hc : w.cell? ⟨bx, 0, none⟩ = some (.int .i64 m)) (hbx : bx < w.heap.size) (hv : Has w b ys) (hB : IsB ys) (hy : ys.length ≤ 1099511627776) (hm : m ≤ 9223372036854775807) :
    Calls Tryz.prog 144 #[b, .pointer (some ⟨bx, 0, none⟩)] w fun e w' => e = .returned (.tuple #[.int .i64 (countS m ys).1, .int .i64 ((countS m ys).2 : Nat)]) ∧ Below w.heap.size w w' := by
  have HG : Hid (Calls Tryz.prog 145 #[b] w fun e w' => e = .returned (.tuple #[.int .u64 (getS ys).1, .int .i64 ((getS ys).2 : Nat)]) ∧ Below w.heap.size w w') := get_cod b ys w hv hB hy
  have hbd := getS_bd ys
  have HT : Hid (countS m ys = if m < 0 ∨ m < (getS ys).1 then (0, 0) else getS ys) := rfl
  generalize getS ys = g at *
  obtain ⟨u, n⟩ := g
  obtain ⟨h0, h1, h2, h3⟩ := hbd
  simp only at h0 h1 h2 h3
  have HG2 : Hid (Calls Tryz.prog 145 #[b] w fun e w' => e = .returned (.tuple #[.int .u64 u, .int .i64 (n : Nat)]) ∧ Below w.heap.size w w') := HG
  clear HG
  by_cases hm0 : m < 0
  · have HT0 : Hid (countS m ys = (0, 0)) := by rw [Hid, HT.out, if_pos (Or.inl hm0)]
    clear HT
    go_enter Tryz.func144, Tryz.ntmps144
    go_wp2_with (go_at_call 145; refine HG2.out.mono ?_; rintro e w1 ⟨rfl, hb1⟩; have hc1 := (hb1.cell (p := ⟨bx, 0, none⟩) hbx).trans hc)
    go_ret2
    rw [HT0.out]
    exact ⟨rfl, hb1⟩
  · by_cases hmu : m < u
    · have HT0 : Hid (countS m ys = (0, 0)) := by rw [Hid, HT.out, if_pos (Or.inr hmu)]
      clear HT
      go_enter Tryz.func144, Tryz.ntmps144
      go_wp2_with (go_at_call 145; refine HG2.out.mono ?_; rintro e w1 ⟨rfl, hb1⟩; have hc1 := (hb1.cell (p := ⟨bx, 0, none⟩) hbx).trans hc)
      go_ret2
      rw [HT0.out]
      exact ⟨rfl, hb1⟩
    · have HT0 : Hid (countS m ys = (u, n)) := by rw [Hid, HT.out, if_neg (by omega)]
      clear HT
      go_enter Tryz.func144, Tryz.ntmps144
      go_wp2_with (go_at_call 145; refine HG2.out.mono ?_; rintro e w1 ⟨rfl, hb1⟩; have hc1 := (hb1.cell (p := ⟨bx, 0, none⟩) hbx).trans hc)
      go_ret2
      rw [HT0.out]
      exact ⟨rfl, hb1⟩

set_option maxRecDepth 100000 in
set_option maxHeartbeats 1000000 in
theorem next_text_any (w : World) (rb L : Nat) (v b : Value) (xs ys : List Int) (wrong : Bool) (h : Rd w rb L v xs wrong) (hb : HasIn w L b ys) (hB : IsB ys) (hy : ys.length ≤ xs.length) (hl : xs.length ≤ 1099511627776) :
    Calls Tryz.prog 128 #[b, .func (.func 129) #[] #[], .func (.func 127) #[.pointer (some ⟨rb, 0, none⟩)] #[]] w fun e w' =>
      e = .returned (.string (strOfNums (getTextS ys).1)) ∧ (∃ v', Rd w' rb L v' (loseS xs wrong (getTextS ys).2).1 (loseS xs wrong (getTextS ys).2).2) ∧ w.grownBy w' (some rb) := by
  have hbd := getTextS_bd ys
  have hL := Nat.le_of_lt (Nat.lt_of_le_of_lt h.le h.lt)
  have H : Hid (Rd w rb L v xs wrong) := h
  have hlt := h.lt
  clear h
  go_enter Tryz.func128, Tryz.ntmps128
  go_wp2_with (first
    | (go_at_call 129; refine (getText_any _ ys _ (hb.has hL) hB (by omega)).mono ?_; rintro e w1 ⟨rfl, hb1⟩)
    | (go_at_call 127; refine (lose_any _ rb L _ v xs wrong (H.out.below hb1 hlt) (by omega) hl).mono ?_; rintro e w2 ⟨rfl, hr2, hg2⟩))
  go_ret
  exact ⟨rfl, hr2, grown_trans (grown_of_below hb1 (Nat.le_refl _) _) hg2⟩

set_option maxRecDepth 100000 in
set_option maxHeartbeats 1000000 in
theorem text_any (w : World) (rb L : Nat) (v : Value) (xs : List Int) (wrong : Bool) (h : Rd w rb L v xs wrong) (hB : IsB xs) (hl : xs.length ≤ 1099511627776) :
    Calls Tryz.prog 91 #[.pointer (some ⟨rb, 0, none⟩)] w fun e w' =>
      e = .returned (.string (strOfNums (getTextS (srcS xs wrong)).1)) ∧ (∃ v', Rd w' rb L v' (loseS xs wrong (getTextS (srcS xs wrong)).2).1 (loseS xs wrong (getTextS (srcS xs wrong)).2).2) ∧ w.grownBy w' (some rb) := by
  go_enter Tryz.func91, Tryz.ntmps91
  go_wp2_with (first
    | (go_at_call 125; refine rest_src _ rb L v xs wrong h ?_; intro b0 hb0)
    | (go_at_call 128; refine (next_text_any _ rb L v _ xs (srcS xs wrong) wrong h hb0 (srcS_isB hB _) (srcS_length _ _) hl).mono ?_; rintro e w1 ⟨rfl, hr1, hg1⟩))
  go_ret
  exact ⟨rfl, hr1, hg1⟩

set_option maxRecDepth 100000 in
set_option maxHeartbeats 1000000 in
theorem end_any (w : World) (rb L : Nat) (v : Value) (xs : List Int) (wrong : Bool) (h : Rd w rb L v xs wrong) :
    Calls Tryz.prog 92 #[.pointer (some ⟨rb, 0, none⟩)] w fun e w' => e = .returned (.bool (xs.isEmpty && !wrong)) ∧ w' = w := by
  have c0 := h.c0
  have c1 := h.c1
  obtain ⟨p, c, rfl, _, _, _⟩ := h.has
  clear h
  have hb : ((xs.length : Int) == 0) = xs.isEmpty := by
    cases xs with
    | nil => rfl
    | cons a l => simp; omega
  generalize xs.isEmpty = emp at *
  generalize xs.length = n at *
  have HB : Hid (((n : Int) == 0) = emp) := hb
  cases wrong <;> cases emp
  all_goals
    have hb1 := HB.out
    clear HB hb
    go_enter Tryz.func92, Tryz.ntmps92
    go_wp2
    go_ret
    exact ⟨rfl, rfl⟩
end Go.Proofs.YthlghokgknkpaaaGreatDoor

/-
  Plain mathematics: what was put is got: numbers, texts, yes and no. No program is named here.
-/
namespace Go.Proofs.YthlghokgknkpaaaGreatDoor
open Go.RowKit

/-- The first byte: of each count k of bytes behind it, and each start t of the number. -/
theorem first_all : ∀ k : Fin 9, ∀ t : Fin 128, t.val < 2 ^ (7 - k.val) ∧ (k.val = 8 → t.val = 0) →
    lead (bits BinOp.or .u8 (bits BinOp.xor .u8 IntKind.u8.max (255 / 2 ^ k.val)) t.val) = k.val ∧ g0 (bits BinOp.or .u8 (bits BinOp.xor .u8 IntKind.u8.max (255 / 2 ^ k.val)) t.val) k.val = t.val := by decide +kernel

theorem more_lt (u : Nat) (hu : u < 18446744073709551616) : (more u < 8 → u < 2 ^ (7 * (more u + 1))) ∧ (more u = 8 → 72057594037927936 ≤ u) := by
  unfold more
  repeat' split
  all_goals simp
  all_goals omega

theorem top_small (u : Nat) (hu : u < 18446744073709551616) : u / 2 ^ (8 * more u) < 2 ^ (7 - more u) ∧ (more u = 8 → u / 2 ^ (8 * more u) = 0) := by
  unfold more
  repeat' split
  all_goals simp
  all_goals omega

theorem first_byte (u : Nat) (hu : u < 18446744073709551616) : lead (fb u (more u)) = more u ∧ g0 (fb u (more u)) (more u) = ((u / 2 ^ (8 * more u) : Nat) : Int) := by
  have hk := more_le u
  obtain ⟨h1, h2⟩ := top_small u hu
  have h3 : 2 ^ (7 - more u) ≤ 128 := Nat.le_trans (Nat.pow_le_pow_right (by decide) (show 7 - more u ≤ 7 by omega)) (by decide)
  have ht : u / 2 ^ (8 * more u) < 128 := by omega
  have := first_all ⟨more u, by omega⟩ ⟨u / 2 ^ (8 * more u), ht⟩ ⟨h1, h2⟩
  have e : fb (u : Int) (more u) = bits BinOp.or .u8 (bits BinOp.xor .u8 IntKind.u8.max (255 / 2 ^ more u)) ((u / 2 ^ (8 * more u) : Nat) : Int) := by
    unfold fb
    have e2 : (u : Int) / 2 ^ (8 * more u) % 256 = ((u / 2 ^ (8 * more u) : Nat) : Int) := by
      rw [show ((u : Int) / 2 ^ (8 * more u)) = ((u / 2 ^ (8 * more u) : Nat) : Int) by simp]
      generalize u / 2 ^ (8 * more u) = t at *
      omega
    rw [e2]
  rw [e]
  exact this

theorem gs_join (a : Nat) (h : a < 18446744073709551616) : gs ((a / 256 : Nat) : Int) ((a % 256 : Nat) : Int) = (a : Int) := by
  unfold gs
  rw [IntKind.wrap_u64]
  have e1 : ((a / 256 : Nat) : Int) * 256 % 18446744073709551616 = ((a / 256 * 256 : Nat) : Int) := by omega
  rw [e1, bits_join .u64 64 (by decide) (fun n h0 h1 => by rw [IntKind.wrap_u64]; omega) 8 _ _ (by omega) (by omega) (by omega) (by omega) (by omega) (by omega)]
  omega

theorem div_step (u k j : Nat) (h : j < k) : u / 2 ^ (8 * (k - j)) = u / 2 ^ (8 * (k - 1 - j)) / 256 := by
  rw [Nat.div_div_eq_div_mul, show (256 : Nat) = 2 ^ 8 from rfl, ← Nat.pow_add]
  congr 2
  omega

theorem bt_nat (u k i : Nat) : bt (u : Int) k i = ((u / 2 ^ (8 * (k - 1 - i)) % 256 : Nat) : Int) := by
  unfold bt
  simp

theorem fold_num (u k : Nat) (hu : u < 18446744073709551616) : ∀ j, j ≤ k → ((List.range j).map (bt u k)).foldl gs ((u / 2 ^ (8 * k) : Nat) : Int) = ((u / 2 ^ (8 * (k - j)) : Nat) : Int)
  | 0, _ => by simp
  | j + 1, h => by
    rw [List.range_succ, List.map_append, List.foldl_append, fold_num u k hu j (by omega)]
    simp only [List.map_cons, List.map_nil, List.foldl_cons, List.foldl_nil]
    rw [div_step u k j (by omega), bt_nat, gs_join _ (Nat.lt_of_le_of_lt (Nat.div_le_self _ _) hu)]
    rw [show k - 1 - j = k - (j + 1) by omega]

/-- What was put is got, whatever stands behind it. -/
theorem getS_numB (u : Int) (h0 : 0 ≤ u) (h1 : u < 18446744073709551616) (r : List Int) : getS (numB u ++ r) = (u, more u.toNat + 1) := by
  obtain ⟨n, rfl⟩ := Int.eq_ofNat_of_zero_le h0
  have hn : n < 18446744073709551616 := by omega
  obtain ⟨hl, hg⟩ := first_byte n hn
  have hk := more_le n
  have e0 : (numB (n : Int) ++ r).getD 0 0 = fb n (more n) := by simp [numB, numK]
  have elen : (numB (n : Int) ++ r).length = more n + 1 + r.length := by simp [numB, numK]; omega
  have eacc : gacc (numB (n : Int) ++ r) (more n) (more n) = n := by
    unfold gacc
    rw [e0, hg]
    have ed : ((numB (n : Int) ++ r).drop 1).take (more n) = (List.range (more n)).map (bt n (more n)) := by
      simp [numB, numK]
    rw [ed, fold_num n (more n) hn (more n) (Nat.le_refl _)]
    simp
  unfold getS
  simp only [Int.toNat_natCast]
  rw [e0, hl, elen, if_neg (by omega), eacc, Int.toNat_natCast, if_pos rfl]

theorem fb_bd (u : Int) (k : Nat) : 0 ≤ fb u k ∧ fb u k ≤ 255 := ⟨bits_lo_u8 _ _ _, bits_hi_u8 _ _ _⟩
theorem numB_isB (u : Int) : IsB (numB u) := by
  refine IsB.cons (fb_bd _ _) fun x hx => ?_
  obtain ⟨i, _, rfl⟩ := List.mem_map.1 hx
  unfold bt
  omega

/-- A text's bytes lead back to it. -/
theorem strOfNums_bytes (l : List UInt8) : strOfNums (l.map fun b => (b.toNat : Int)) = ⟨l.toArray⟩ := by
  unfold strOfNums
  congr 1
  congr 1
  rw [List.map_map]
  conv => rhs; rw [← List.map_id l]
  apply List.map_congr_left
  intro b _
  simp

theorem getTextS_put (ys r : List Int) (h : ys.length < 18446744073709551616) : getTextS (numB ys.length ++ ys ++ r) = (ys, (numB ys.length).length + ys.length) := by
  have hg := getS_numB (ys.length : Int) (by omega) (by omega) (ys ++ r)
  rw [← List.append_assoc] at hg
  unfold getTextS
  rw [hg]
  have hl := numB_length (ys.length : Int)
  simp only [Int.toNat_natCast] at hl ⊢
  rw [if_neg (by simp only [List.length_append]; omega)]
  rw [hl, List.append_assoc, List.drop_left' hl]
  simp

theorem getBoolS_put (b : Bool) (r : List Int) : getBoolS ((if b then (84 : Int) else 70) :: r) = (b, 1) := by
  cases b <;> simp [getBoolS]

end Go.Proofs.YthlghokgknkpaaaGreatDoor
