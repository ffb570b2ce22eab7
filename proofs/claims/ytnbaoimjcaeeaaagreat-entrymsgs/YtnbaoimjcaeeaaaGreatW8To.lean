import Derived.Test.YtnbaoimjcaeeaaaGreatGet0To
import Derived.Test.YtnbaoimjcaeeaaaGreatW7To
/-
  Contracts: a nil Reader.
-/
namespace Go.Proofs.YtnbaoimjcaeeaaaGreat
open Go.RowKit

set_option maxRecDepth 100000 in
set_option maxHeartbeats 1000000 in
theorem rest_nil (w : World) : Calls Tryz.prog 112 #[.pointer none] w fun e w' => e = .returned (.slice none 0 0) ∧ w' = w := by
  go_enter Tryz.func112, Tryz.ntmps112
  go_wp2
  go_ret
  exact ⟨rfl, rfl⟩

set_option maxRecDepth 100000 in
set_option maxHeartbeats 1000000 in
theorem lose_nil (n : Int) (w : World) : Calls Tryz.prog 114 #[.pointer none, .int .i64 n] w fun e w' => e = .returned (.tuple #[]) ∧ w' = w := by
  go_enter Tryz.func114, Tryz.ntmps114
  go_wp2
  go_end0
  exact ⟨rfl, rfl⟩

set_option maxRecDepth 100000 in
set_option maxHeartbeats 1000000 in
theorem get_nil (w : World) : Calls Tryz.prog 139 #[.slice none 0 0] w fun e w' => e = .returned (.tuple #[.int .u64 0, .int .i64 0]) ∧ w' = w := by
  go_enter Tryz.func139, Tryz.ntmps139
  go_wp2
  go_ret2
  exact ⟨rfl, rfl⟩

set_option maxRecDepth 100000 in
set_option maxHeartbeats 1000000 in
theorem getText_nil (w : World) : Calls Tryz.prog 113 #[.slice none 0 0] w fun e w' => e = .returned (.tuple #[.string ⟨#[]⟩, .int .i64 0]) ∧ w' = w := by
  go_enter Tryz.func113, Tryz.ntmps113
  go_wp2_with (go_at_call 139; refine same_mono (get_nil _) ?_)
  go_ret2
  exact ⟨rfl, rfl⟩

set_option maxRecDepth 100000 in
set_option maxHeartbeats 1000000 in
theorem getBool_nil (w : World) : Calls Tryz.prog 116 #[.slice none 0 0] w fun e w' => e = .returned (.tuple #[.bool false, .int .i64 0]) ∧ w' = w := by
  go_enter Tryz.func116, Tryz.ntmps116
  go_wp2
  go_ret2
  exact ⟨rfl, rfl⟩

set_option maxRecDepth 100000 in
set_option maxHeartbeats 1000000 in
theorem next_num_nil (w : World) : Calls Tryz.prog 138 #[.slice none 0 0, .func (.func 139) #[] #[], .func (.func 114) #[.pointer none] #[]] w fun e w' => e = .returned (.int .u64 0) ∧ w' = w := by
  go_enter Tryz.func138, Tryz.ntmps138
  go_wp2_with (first
    | (go_at_call 139; refine same_mono (get_nil _) ?_)
    | (go_at_call 114; refine same_mono (lose_nil _ _) ?_))
  go_ret
  exact ⟨rfl, rfl⟩

set_option maxRecDepth 100000 in
set_option maxHeartbeats 1000000 in
theorem num_nil (w : World) : Calls Tryz.prog 102 #[.pointer none] w fun e w' => e = .returned (.int .u64 0) ∧ w' = w := by
  go_enter Tryz.func102, Tryz.ntmps102
  go_wp2_with (first
    | (go_at_call 112; refine same_mono (rest_nil _) ?_)
    | (go_at_call 138; refine same_mono (next_num_nil _) ?_))
  go_ret
  exact ⟨rfl, rfl⟩

set_option maxRecDepth 100000 in
set_option maxHeartbeats 1000000 in
theorem next_text_nil (w : World) : Calls Tryz.prog 111 #[.slice none 0 0, .func (.func 113) #[] #[], .func (.func 114) #[.pointer none] #[]] w fun e w' => e = .returned (.string ⟨#[]⟩) ∧ w' = w := by
  go_enter Tryz.func111, Tryz.ntmps111
  go_wp2_with (first
    | (go_at_call 113; refine same_mono (getText_nil _) ?_)
    | (go_at_call 114; refine same_mono (lose_nil _ _) ?_))
  go_ret
  exact ⟨rfl, rfl⟩

set_option maxRecDepth 100000 in
set_option maxHeartbeats 1000000 in
theorem text_nil (w : World) : Calls Tryz.prog 78 #[.pointer none] w fun e w' => e = .returned (.string ⟨#[]⟩) ∧ w' = w := by
  go_enter Tryz.func78, Tryz.ntmps78
  go_wp2_with (first
    | (go_at_call 112; refine same_mono (rest_nil _) ?_)
    | (go_at_call 111; refine same_mono (next_text_nil _) ?_))
  go_ret
  exact ⟨rfl, rfl⟩

set_option maxRecDepth 100000 in
set_option maxHeartbeats 1000000 in
theorem next_bool_nil (w : World) : Calls Tryz.prog 115 #[.slice none 0 0, .func (.func 116) #[] #[], .func (.func 114) #[.pointer none] #[]] w fun e w' => e = .returned (.bool false) ∧ w' = w := by
  go_enter Tryz.func115, Tryz.ntmps115
  go_wp2_with (first
    | (go_at_call 116; refine same_mono (getBool_nil _) ?_)
    | (go_at_call 114; refine same_mono (lose_nil _ _) ?_))
  go_ret
  exact ⟨rfl, rfl⟩

set_option maxRecDepth 100000 in
set_option maxHeartbeats 1000000 in
theorem bool_nil (w : World) : Calls Tryz.prog 80 #[.pointer none] w fun e w' => e = .returned (.bool false) ∧ w' = w := by
  go_enter Tryz.func80, Tryz.ntmps80
  go_wp2_with (first
    | (go_at_call 112; refine same_mono (rest_nil _) ?_)
    | (go_at_call 115; refine same_mono (next_bool_nil _) ?_))
  go_ret
  exact ⟨rfl, rfl⟩

theorem zag0 : zagS 0 = 0 := by decide +kernel

set_option maxRecDepth 100000 in
set_option maxHeartbeats 1000000 in
theorem int_nil (w : World) : Calls Tryz.prog 68 #[.pointer none] w fun e w' => e = .returned (.int .i64 0) ∧ w' = w := by
  go_enter Tryz.func68, Tryz.ntmps68
  go_wp2_with (first
    | (go_at_call 102; refine same_mono (num_nil _) ?_)
    | (go_at_call 101; refine same_mono (zag_any _ _) ?_; rw [zag0]))
  go_ret
  exact ⟨rfl, rfl⟩

set_option maxRecDepth 100000 in
set_option maxHeartbeats 1000000 in
theorem end_nil (w : World) : Calls Tryz.prog 67 #[.pointer none] w fun e w' => e = .returned (.bool false) ∧ w' = w := by
  go_enter Tryz.func67, Tryz.ntmps67
  go_wp2
  go_ret
  exact ⟨rfl, rfl⟩

set_option maxRecDepth 100000 in
set_option maxHeartbeats 1000000 in
theorem upTo_any (m : Int) (w : World) : Calls Tryz.prog 141 #[.int .i64 m] w fun e w' => e = .returned (.func (.func 144) #[] #[.pointer (some ⟨w.heap.size, 0, none⟩)]) ∧ w' = w.alloc (.cells #[.int .i64 m] 3) := by
  go_enter Tryz.func141, Tryz.ntmps141
  go_wp2
  go_ret
  exact ⟨rfl, rfl⟩

set_option maxRecDepth 100000 in
set_option maxHeartbeats 1000000 in
theorem upTo1_nil (m : Int) (b : Nat) (w : World) (hc : w.cell? ⟨b, 0, none⟩ = some (.int .i64 m)) : Calls Tryz.prog 144 #[.slice none 0 0, .pointer (some ⟨b, 0, none⟩)] w fun e w' => e = .returned (.tuple #[.int .i64 0, .int .i64 0]) ∧ w' = w := by
  by_cases hm : m < 0
  · go_enter Tryz.func144, Tryz.ntmps144
    go_wp2_with (go_at_call 139; refine same_mono (get_nil _) ?_)
    go_ret2
    exact ⟨rfl, rfl⟩
  · have hw : 0 ≤ IntKind.u64.wrap m := by rw [IntKind.wrap_u64]; omega
    go_enter Tryz.func144, Tryz.ntmps144
    go_wp2_with (go_at_call 139; refine same_mono (get_nil _) ?_)
    all_goals go_ret2
    all_goals exact ⟨rfl, rfl⟩

set_option maxRecDepth 100000 in
set_option maxHeartbeats 1000000 in
theorem next_count_nil (m : Int) (b : Nat) (w : World) (hc : w.cell? ⟨b, 0, none⟩ = some (.int .i64 m)) : Calls Tryz.prog 140 #[.slice none 0 0, .func (.func 144) #[] #[.pointer (some ⟨b, 0, none⟩)], .func (.func 114) #[.pointer none] #[]] w fun e w' => e = .returned (.int .i64 0) ∧ w' = w := by
  go_enter Tryz.func140, Tryz.ntmps140
  go_wp2_with (first
    | (go_at_call 144; refine same_mono (upTo1_nil m b _ hc) ?_)
    | (go_at_call 114; refine same_mono (lose_nil _ _) ?_))
  go_ret
  exact ⟨rfl, rfl⟩

set_option maxRecDepth 100000 in
set_option maxHeartbeats 1000000 in
theorem count_nil (m : Int) (w : World) : Calls Tryz.prog 117 #[.pointer none, .int .i64 m] w fun e w' => e = .returned (.int .i64 0) ∧ w' = w.alloc (.cells #[.int .i64 m] 3) := by
  go_enter Tryz.func117, Tryz.ntmps117
  go_wp2_with (first
    | (go_at_call 112; refine same_mono (rest_nil _) ?_)
    | (go_at_call 141; refine (upTo_any _ _).mono ?_; rintro e w' ⟨rfl, rfl⟩)
    | (go_at_call 140; refine same_mono (next_count_nil m _ _ (by simp)) ?_))
  go_ret
  exact ⟨rfl, rfl⟩
end Go.Proofs.YtnbaoimjcaeeaaaGreat

/-
  Contracts: a Reader that is not nil: Num, Int, Text, Bool, Count, End.
-/
namespace Go.Proofs.YtnbaoimjcaeeaaaGreat
open Go.RowKit

theorem srcS_isB {xs : List Int} (h : IsB xs) (wrong : Bool) : IsB (srcS xs wrong) := by cases wrong <;> simp [srcS, IsB.nil, h]
theorem srcS_length (xs : List Int) (wrong : Bool) : (srcS xs wrong).length ≤ xs.length := by cases wrong <;> simp [srcS]
theorem Rd.src {w : World} {rb L : Nat} {v : Value} {xs : List Int} {wrong : Bool} (h : Rd w rb L v xs wrong) : HasIn w L (if wrong then .slice none 0 0 else v) (srcS xs wrong) := by
  cases wrong
  · exact h.has
  · exact HasIn.nil w L
theorem loseS_isB {xs : List Int} (h : IsB xs) (wrong : Bool) (n : Nat) : IsB (loseS xs wrong n).1 := by
  unfold loseS; split
  · exact IsB.nil
  · exact fun x hx => h x (List.mem_of_mem_drop hx)
theorem loseS_length (xs : List Int) (wrong : Bool) (n : Nat) : (loseS xs wrong n).1.length ≤ xs.length := by
  unfold loseS; split <;> simp

theorem rest_src {Q : Ending → World → Prop} (w : World) (rb L : Nat) (v : Value) (xs : List Int) (wrong : Bool) (h : Rd w rb L v xs wrong) (hQ : ∀ b, HasIn w L b (srcS xs wrong) → Q (.returned b) w) :
    Calls Tryz.prog 112 #[.pointer (some ⟨rb, 0, none⟩)] w Q :=
  (rest_any w rb L v xs wrong h).mono fun e w' ⟨h1, h2⟩ => by subst h1; subst h2; exact hQ _ h.src

/-- What Count tells of bytes. -/
def countS (m : Int) (ys : List Int) : Int × Nat := if m < 0 ∨ m < (getS ys).1 then (0, 0) else getS ys
theorem countS_bd (m : Int) (ys : List Int) : (countS m ys).2 ≤ ys.length := by
  have := getS_bd ys
  unfold countS; split <;> simp_all

set_option maxRecDepth 100000 in
set_option maxHeartbeats 1000000 in
theorem upTo1_any (m : Int) (bx : Nat) (b : Value) (ys : List Int) (w : World) (hc : w.cell? ⟨bx, 0, none⟩ = some (.int .i64 m)) (hbx : bx < w.heap.size) (hv : Has w b ys) (hB : IsB ys) (hy : ys.length ≤ 1099511627776) (hm : m ≤ 9223372036854775807) :
    Calls Tryz.prog 144 #[b, .pointer (some ⟨bx, 0, none⟩)] w fun e w' => e = .returned (.tuple #[.int .i64 (countS m ys).1, .int .i64 ((countS m ys).2 : Nat)]) ∧ Below w.heap.size w w' := by
  have HG : Hid (Calls Tryz.prog 139 #[b] w fun e w' => e = .returned (.tuple #[.int .u64 (getS ys).1, .int .i64 ((getS ys).2 : Nat)]) ∧ Below w.heap.size w w') := get_cod b ys w hv hB hy
  have hbd := getS_bd ys
  have HT : Hid (countS m ys = if m < 0 ∨ m < (getS ys).1 then (0, 0) else getS ys) := rfl
  generalize getS ys = g at *
  obtain ⟨u, n⟩ := g
  obtain ⟨h0, h1, h2, h3⟩ := hbd
  simp only at h0 h1 h2 h3
  have HG2 : Hid (Calls Tryz.prog 139 #[b] w fun e w' => e = .returned (.tuple #[.int .u64 u, .int .i64 (n : Nat)]) ∧ Below w.heap.size w w') := HG
  clear HG
  by_cases hm0 : m < 0
  · have HT0 : Hid (countS m ys = (0, 0)) := by rw [Hid, HT.out, if_pos (Or.inl hm0)]
    clear HT
    go_enter Tryz.func144, Tryz.ntmps144
    go_wp2_with (go_at_call 139; refine HG2.out.mono ?_; rintro e w1 ⟨rfl, hb1⟩; have hc1 := (hb1.cell (p := ⟨bx, 0, none⟩) hbx).trans hc)
    go_ret2
    rw [HT0.out]
    exact ⟨rfl, hb1⟩
  · by_cases hmu : m < u
    · have HT0 : Hid (countS m ys = (0, 0)) := by rw [Hid, HT.out, if_pos (Or.inr hmu)]
      clear HT
      go_enter Tryz.func144, Tryz.ntmps144
      go_wp2_with (go_at_call 139; refine HG2.out.mono ?_; rintro e w1 ⟨rfl, hb1⟩; have hc1 := (hb1.cell (p := ⟨bx, 0, none⟩) hbx).trans hc)
      go_ret2
      rw [HT0.out]
      exact ⟨rfl, hb1⟩
    · have HT0 : Hid (countS m ys = (u, n)) := by rw [Hid, HT.out, if_neg (by omega)]
      clear HT
      go_enter Tryz.func144, Tryz.ntmps144
      go_wp2_with (go_at_call 139; refine HG2.out.mono ?_; rintro e w1 ⟨rfl, hb1⟩; have hc1 := (hb1.cell (p := ⟨bx, 0, none⟩) hbx).trans hc)
      go_ret2
      rw [HT0.out]
      exact ⟨rfl, hb1⟩

set_option maxRecDepth 100000 in
set_option maxHeartbeats 1000000 in
theorem next_text_any (w : World) (rb L : Nat) (v b : Value) (xs ys : List Int) (wrong : Bool) (h : Rd w rb L v xs wrong) (hb : HasIn w L b ys) (hB : IsB ys) (hy : ys.length ≤ xs.length) (hl : xs.length ≤ 1099511627776) :
    Calls Tryz.prog 111 #[b, .func (.func 113) #[] #[], .func (.func 114) #[.pointer (some ⟨rb, 0, none⟩)] #[]] w fun e w' =>
      e = .returned (.string (strOfNums (getTextS ys).1)) ∧ (∃ v', Rd w' rb L v' (loseS xs wrong (getTextS ys).2).1 (loseS xs wrong (getTextS ys).2).2) ∧ w.grownBy w' (some rb) := by
  have hbd := getTextS_bd ys
  have hL := Nat.le_of_lt (Nat.lt_of_le_of_lt h.le h.lt)
  have H : Hid (Rd w rb L v xs wrong) := h
  have hlt := h.lt
  clear h
  go_enter Tryz.func111, Tryz.ntmps111
  go_wp2_with (first
    | (go_at_call 113; refine (getText_any _ ys _ (hb.has hL) hB (by omega)).mono ?_; rintro e w1 ⟨rfl, hb1⟩)
    | (go_at_call 114; refine (lose_any _ rb L _ v xs wrong (H.out.below hb1 hlt) (by omega) hl).mono ?_; rintro e w2 ⟨rfl, hr2, hg2⟩))
  go_ret
  exact ⟨rfl, hr2, grown_trans (grown_of_below hb1 (Nat.le_refl _) _) hg2⟩

set_option maxRecDepth 100000 in
set_option maxHeartbeats 1000000 in
theorem next_bool_any (w : World) (rb L : Nat) (v b : Value) (xs ys : List Int) (wrong : Bool) (h : Rd w rb L v xs wrong) (hb : HasIn w L b ys) (hB : IsB ys) (hy : ys.length ≤ xs.length) (hl : xs.length ≤ 1099511627776) :
    Calls Tryz.prog 115 #[b, .func (.func 116) #[] #[], .func (.func 114) #[.pointer (some ⟨rb, 0, none⟩)] #[]] w fun e w' =>
      e = .returned (.bool (getBoolS ys).1) ∧ (∃ v', Rd w' rb L v' (loseS xs wrong (getBoolS ys).2).1 (loseS xs wrong (getBoolS ys).2).2) ∧ w.grownBy w' (some rb) := by
  have hbd := getBoolS_bd ys
  have hL := Nat.le_of_lt (Nat.lt_of_le_of_lt h.le h.lt)
  have H : Hid (Rd w rb L v xs wrong) := h
  have hlt := h.lt
  clear h
  go_enter Tryz.func115, Tryz.ntmps115
  go_wp2_with (first
    | (go_at_call 116; refine (getBool_any _ ys _ (hb.has hL) hB (by omega)).mono ?_; rintro e w1 ⟨rfl, rfl⟩; have hb1 := Below.refl w1.heap.size w1)
    | (go_at_call 114; refine (lose_any _ rb L _ v xs wrong (H.out.below hb1 hlt) (by omega) hl).mono ?_; rintro e w2 ⟨rfl, hr2, hg2⟩))
  go_ret
  exact ⟨rfl, hr2, grown_trans (grown_of_below hb1 (Nat.le_refl _) _) hg2⟩

set_option maxRecDepth 100000 in
set_option maxHeartbeats 1000000 in
theorem num_any (w : World) (rb L : Nat) (v : Value) (xs : List Int) (wrong : Bool) (h : Rd w rb L v xs wrong) (hB : IsB xs) (hl : xs.length ≤ 1099511627776) :
    Calls Tryz.prog 102 #[.pointer (some ⟨rb, 0, none⟩)] w fun e w' =>
      e = .returned (.int .u64 (getS (srcS xs wrong)).1) ∧ (∃ v', Rd w' rb L v' (loseS xs wrong (getS (srcS xs wrong)).2).1 (loseS xs wrong (getS (srcS xs wrong)).2).2) ∧ w.grownBy w' (some rb) := by
  go_enter Tryz.func102, Tryz.ntmps102
  go_wp2_with (first
    | (go_at_call 112; refine rest_src _ rb L v xs wrong h ?_; intro b0 hb0)
    | (go_at_call 138; refine (next_num_any _ rb L v _ xs (srcS xs wrong) wrong h hb0 (srcS_isB hB _) (srcS_length _ _) hl).mono ?_; rintro e w1 ⟨rfl, hr1, hg1⟩))
  go_ret
  exact ⟨rfl, hr1, hg1⟩

set_option maxRecDepth 100000 in
set_option maxHeartbeats 1000000 in
theorem text_any (w : World) (rb L : Nat) (v : Value) (xs : List Int) (wrong : Bool) (h : Rd w rb L v xs wrong) (hB : IsB xs) (hl : xs.length ≤ 1099511627776) :
    Calls Tryz.prog 78 #[.pointer (some ⟨rb, 0, none⟩)] w fun e w' =>
      e = .returned (.string (strOfNums (getTextS (srcS xs wrong)).1)) ∧ (∃ v', Rd w' rb L v' (loseS xs wrong (getTextS (srcS xs wrong)).2).1 (loseS xs wrong (getTextS (srcS xs wrong)).2).2) ∧ w.grownBy w' (some rb) := by
  go_enter Tryz.func78, Tryz.ntmps78
  go_wp2_with (first
    | (go_at_call 112; refine rest_src _ rb L v xs wrong h ?_; intro b0 hb0)
    | (go_at_call 111; refine (next_text_any _ rb L v _ xs (srcS xs wrong) wrong h hb0 (srcS_isB hB _) (srcS_length _ _) hl).mono ?_; rintro e w1 ⟨rfl, hr1, hg1⟩))
  go_ret
  exact ⟨rfl, hr1, hg1⟩

set_option maxRecDepth 100000 in
set_option maxHeartbeats 1000000 in
theorem bool_any (w : World) (rb L : Nat) (v : Value) (xs : List Int) (wrong : Bool) (h : Rd w rb L v xs wrong) (hB : IsB xs) (hl : xs.length ≤ 1099511627776) :
    Calls Tryz.prog 80 #[.pointer (some ⟨rb, 0, none⟩)] w fun e w' =>
      e = .returned (.bool (getBoolS (srcS xs wrong)).1) ∧ (∃ v', Rd w' rb L v' (loseS xs wrong (getBoolS (srcS xs wrong)).2).1 (loseS xs wrong (getBoolS (srcS xs wrong)).2).2) ∧ w.grownBy w' (some rb) := by
  go_enter Tryz.func80, Tryz.ntmps80
  go_wp2_with (first
    | (go_at_call 112; refine rest_src _ rb L v xs wrong h ?_; intro b0 hb0)
    | (go_at_call 115; refine (next_bool_any _ rb L v _ xs (srcS xs wrong) wrong h hb0 (srcS_isB hB _) (srcS_length _ _) hl).mono ?_; rintro e w1 ⟨rfl, hr1, hg1⟩))
  go_ret
  exact ⟨rfl, hr1, hg1⟩

set_option maxRecDepth 100000 in
set_option maxHeartbeats 1000000 in
theorem int_any (w : World) (rb L : Nat) (v : Value) (xs : List Int) (wrong : Bool) (h : Rd w rb L v xs wrong) (hB : IsB xs) (hl : xs.length ≤ 1099511627776) :
    Calls Tryz.prog 68 #[.pointer (some ⟨rb, 0, none⟩)] w fun e w' =>
      e = .returned (.int .i64 (zagS (getS (srcS xs wrong)).1)) ∧ (∃ v', Rd w' rb L v' (loseS xs wrong (getS (srcS xs wrong)).2).1 (loseS xs wrong (getS (srcS xs wrong)).2).2) ∧ w.grownBy w' (some rb) := by
  go_enter Tryz.func68, Tryz.ntmps68
  go_wp2_with (first
    | (go_at_call 102; refine (num_any _ rb L v xs wrong h hB hl).mono ?_; rintro e w1 ⟨rfl, hr1, hg1⟩)
    | (go_at_call 101; refine same_mono (zag_any _ _) ?_))
  go_ret
  exact ⟨rfl, hr1, hg1⟩

set_option maxRecDepth 100000 in
set_option maxHeartbeats 1000000 in
theorem end_any (w : World) (rb L : Nat) (v : Value) (xs : List Int) (wrong : Bool) (h : Rd w rb L v xs wrong) :
    Calls Tryz.prog 67 #[.pointer (some ⟨rb, 0, none⟩)] w fun e w' => e = .returned (.bool (xs.isEmpty && !wrong)) ∧ w' = w := by
  have c0 := h.c0
  have c1 := h.c1
  obtain ⟨p, c, rfl, _, _, _⟩ := h.has
  clear h
  have hb : ((xs.length : Int) == 0) = xs.isEmpty := by
    cases xs with
    | nil => rfl
    | cons a l => simp; omega
  generalize xs.isEmpty = emp at *
  generalize xs.length = n at *
  have HB : Hid (((n : Int) == 0) = emp) := hb
  cases wrong <;> cases emp
  all_goals
    have hb1 := HB.out
    clear HB hb
    go_enter Tryz.func67, Tryz.ntmps67
    go_wp2
    go_ret
    exact ⟨rfl, rfl⟩
end Go.Proofs.YtnbaoimjcaeeaaaGreat
