/-
  append of ints; lives of stage 14; the walks of QuorumCounts, QuorumMost, QuorumCommits.
-/
import Derived.Test.YtjaoljhbnbaeaaaQaD
import Derived.Test.YtjaoljhbnbaeaaaQaF
import Derived.Laws.AppendOwnNone
namespace Go.Proofs.Ytjaoljhbnbaeaaa
open Go.RowKit Go.Shelf

/-- 'append(s, x)' of one int: it has just been laid in a block of its own. -/
theorem ap_int14 {ops : Array Oper} {rest : List Oper} {o : Oper} {a : Act} {Q : Exit → Act → World → Prop} (w : World) (hgd : o.guard = none) (s x : Operand)
    (ho : o.op = .call { callee := .builtin .append, args := #[s, x], argTypes := #[26, 26] })
    (B : Nat) (v : Value) (xs : List Int) (z : Int) (hs : a.eval s = v) (hx : a.eval x = .slice (some ⟨w.heap.size, 0, none⟩) 1 1) (hown : OwnsI w B v xs) (hlen : xs.length ≤ 1099511627776) (hB : B ≤ w.heap.size)
    (h : ∀ v' w', OwnsI w' B v' (xs ++ [z]) → Below B w w' → w.grownBy w' v.ownBlock → wpList Try.prog ops Q rest (a.put o.dst v') w') :
    wpList Try.prog ops Q (o :: rest) a (w.alloc (.cells #[.int .i64 z] 3)) := by
  obtain ⟨i, hi, hz, hsize, hby⟩ := info_parts Try.infoInt
  refine wpList_append_own _ hgd s x 26 ho B 3 i (.int .i64 0) 1 8 Try.underlying26 hi hz hsize hby rfl (by decide) v xs.length (xs.map (Value.int .i64)) hs (World.ownsRow.alloc hown _) ⟨w.heap.size, 0, none⟩ 1 1 [.int .i64 z] hx rfl ?_ ?_ ?_ ?_ ?_ ?_
  · intro j u hj
    match j, hj with
    | 0, hj => simp at hj; subst hj; simp [Addr.add]
  · intro u hu; simp at hu; subst hu; rfl
  · unfold maxLen; omega
  · omega
  · simp; omega
  · intro v' w' hown' hgrow _
    refine h v' w' ?_ ?_ ?_
    · unfold OwnsI
      rw [List.length_append, List.length_singleton, List.map_append]
      exact hown'
    · exact ((Below.refl B w).alloc hB _).trans ((Below.refl _ _).grown hgrow (by simp; omega) fun k hk => (World.ownsRow.lt hown k hk).1)
    · have hga := World.grownBy_alloc w (.cells #[.int .i64 z] 3) v.ownBlock
      exact ⟨hgrow.os.trans hga.os, hgrow.tape.trans hga.tape, hgrow.output.trans hga.output, Nat.le_trans hga.size hgrow.size, fun k hk hne => (hgrow.block k (Nat.lt_of_lt_of_le hk hga.size) hne).trans (hga.block k hk hne)⟩
/-- 'append(s, x...)' of ints. -/
theorem ap_ints14 {ops : Array Oper} {rest : List Oper} {o : Oper} {a : Act} {Q : Exit → Act → World → Prop} (w : World) (hgd : o.guard = none) (s x : Operand)
    (ho : o.op = .call { callee := .builtin .append, args := #[s, x], argTypes := #[26, 26] })
    (B : Nat) (v : Value) (xs ys : List Int) (hs : a.eval s = v) (hx : HasI w (a.eval x) ys) (hown : OwnsI w B v xs) (hlen : xs.length ≤ 100000000000) (hlen2 : ys.length ≤ 100000000000) (hB : B ≤ w.heap.size)
    (h : ∀ v' w', OwnsI w' B v' (xs ++ ys) → Below B w w' → wpList Try.prog ops Q rest (a.put o.dst v') w') :
    wpList Try.prog ops Q (o :: rest) a w := by
  obtain ⟨i, hi, hz, hsize, hby⟩ := info_parts Try.infoInt
  obtain ⟨p, c, hv, hc, hnone, hcell⟩ := hx
  cases p with
  | none =>
    obtain rfl := hnone rfl
    have hy : ys = [] := List.eq_nil_of_length_eq_zero (by omega)
    subst hy
    refine wpList_append_own_none hgd s x 26 ho B 3 i 1 Try.underlying26 hi v xs.length (xs.map (Value.int .i64)) hs hown (by simpa using hv) ?_
    refine h v w ?_ (Below.refl _ _)
    simpa using hown
  | some ad =>
    refine wpList_append_own _ hgd s x 26 ho B 3 i (.int .i64 0) 1 8 Try.underlying26 hi hz hsize hby rfl (by decide) v xs.length (xs.map (Value.int .i64)) hs hown ad ys.length c (ys.map (Value.int .i64)) hv (by simp) ?_ (ints_oneCell .i64 ys) ?_ ?_ hB ?_
    · intro j u hj
      have hjl : j < ys.length := by
        have := (List.getElem?_eq_some_iff.1 hj).1
        simpa using this
      obtain ⟨b, o', hp, _, hcl⟩ := hcell (by omega)
      obtain rfl := Option.some.inj hp
      rw [Addr.add_lit, hcl j hjl]
      simp [List.getElem?_eq_getElem hjl] at hj
      subst hj
      simp [List.getElem?_eq_getElem hjl]
    · unfold maxLen; omega
    · omega
    · intro v' w' hown' hgrow _
      refine h v' w' ?_ ((Below.refl _ _).grown hgrow hB fun k hk => (World.ownsRow.lt hown k hk).1)
      unfold OwnsI
      rw [List.length_append, List.map_append]
      exact hown'
theorem OwnsI.empty14 (w : World) : OwnsI (w.alloc (.cells #[] 3)) w.heap.size (.slice (some ⟨w.heap.size, 0, none⟩) 0 0) [] :=
  ⟨rfl, .inr ⟨w.heap.size, 0, #[], rfl, Nat.le_refl _, heap_alloc_new w _, Nat.le_refl _, by decide, rfl, rfl⟩⟩

theorem com_529 : com14 [5, 2, 9] = 5 := (com_is _ (by decide)).eq ⟨by decide, by decide, by decide⟩
theorem com_52 : com14 [5, 2] = 2 := (com_is _ (by decide)).eq ⟨by decide, by decide, by decide⟩
theorem won_113 : wonI 1 1 3 = 0 := by decide
theorem maj_5 : majI 5 = 3 := by decide

set_option maxRecDepth 100000 in
set_option maxHeartbeats 2000000 in
theorem lives14 (w : World) : Calls Try.prog 13 #[] w fun e w' => e = .returned (.bool true) ∧ Below w.heap.size w w' := by
  have h5 := com_529
  have h2 := com_52
  have hw := won_113
  have hm := maj_5
  go_enter Try.func13, Try.ntmps13
  go_wp2_with fail
  have hL := HasI.lit w [5, 2, 9] 3
  refine (com_any _ _ _ hL (by decide)).mono ?_
  rintro e w1 ⟨rfl, hb1⟩
  rw [h5]
  have hB1 : Below w.heap.size w w1 := ((Below.refl w.heap.size w).alloc (Nat.le_refl _) _).trans (hb1.mono (by simp))
  clear hL hb1 h5
  go_wp2_with fail
  have hL := HasI.lit w1 [5, 2] 3
  refine (com_any _ _ _ hL (by decide)).mono ?_
  rintro e w2 ⟨rfl, hb2⟩
  rw [h2]
  have hB2 : Below w.heap.size w w2 := (hB1.alloc hB1.size _).trans (hb2.mono (by have := hB1.size; simp; omega))
  clear hL hb2 h2 hB1
  go_wp2_with fail
  refine (won_any 1 1 3 w2 (by omega) (by omega) (by omega)).mono ?_
  rintro e w3 ⟨rfl, rfl⟩
  rw [hw]
  clear hw
  go_wp2_with fail
  refine (maj_any 5 w3 (by omega)).mono ?_
  rintro e w4 ⟨rfl, rfl⟩
  rw [hm]
  clear hm
  go_wp2
  go_ret
  exact ⟨rfl, hB2⟩

set_option maxRecDepth 100000 in
set_option maxHeartbeats 2000000 in
theorem quorumCounts_of (yes no n : Int) (w : World) (h1 : -9223372036854775808 ≤ yes ∧ yes < 9223372036854775808) (h2 : -9223372036854775808 ≤ no ∧ no < 9223372036854775808) (h3 : -9223372036854775808 ≤ n ∧ n < 9223372036854775808) :
    Calls Try.prog 3 #[.int .i64 yes, .int .i64 no, .int .i64 n] w fun e w' => e = .returned (.bool true) ∧ Below w.heap.size w w' := by
  go_enter Try.func3, Try.ntmps3
  go_wp2_with fail
  refine (maj_any n _ h3.2).mono ?_
  rintro e w1 ⟨rfl, rfl⟩
  go_wp2_with fail
  refine (rmaj_any n _ h3.2).mono ?_
  rintro e w1 ⟨rfl, rfl⟩
  go_wp2_with fail
  refine (won_any yes no n _ h1 h2 h3).mono ?_
  rintro e w1 ⟨rfl, rfl⟩
  go_wp2_with fail
  refine (rwon_any yes no n _ h1 h2 h3).mono ?_
  rintro e w1 ⟨rfl, rfl⟩
  go_wp2_with fail
  refine (lives14 _).mono ?_
  rintro e w1 ⟨rfl, hb⟩
  go_wp2
  go_ret
  exact ⟨rfl, hb⟩
theorem quorumCounts_row (yes no n : Int) (w : World) (h1 : -9223372036854775808 ≤ yes ∧ yes ≤ 9223372036854775807) (h2 : -9223372036854775808 ≤ no ∧ no ≤ 9223372036854775807) (h3 : -9223372036854775808 ≤ n ∧ n ≤ 9223372036854775807) :
    Calls Try.prog 3 #[.int .i64 yes, .int .i64 no, .int .i64 n] w fun e w' => e = .returned (.bool true) ∧ Below w.heap.size w w' :=
  quorumCounts_of yes no n w (by omega) (by omega) (by omega)
end Go.Proofs.Ytjaoljhbnbaeaaa
