/-
  The walks of QuorumMost and QuorumCommits.
-/
import Derived.Test.YtjaoljhbnbaeaaaQaI
import Derived.Deep.LoopGhost
namespace Go.Proofs.Ytjaoljhbnbaeaaa
open Go.RowKit Go.Shelf

/-- What a slice that came in reads as, in all later worlds. -/
theorem HasI.parts15 {w : World} {v : Value} {xs : List Int} (h : HasI w v xs) : ∃ p c, v = .slice p xs.length c ∧ xs.length ≤ c ∧ ∀ W, Below w.heap.size w W → ∀ i, i < xs.length → ∃ b o, p = some ⟨b, o, none⟩ ∧ W.cell? ⟨b, o + i, none⟩ = some (.int .i64 (xs.getD i 0)) := by
  obtain ⟨p, c, rfl, hc, hx⟩ := h.parts14
  refine ⟨p, c, rfl, hc, fun W hW i hi => ?_⟩
  obtain ⟨b, o, rfl, hlt, hcl⟩ := hx i hi
  exact ⟨b, o, rfl, (hW.cell (p := ⟨b, o + i, none⟩) hlt).trans hcl⟩
def gtc14 (xs : List Int) (x : Int) (i : Nat) : Nat := (xs.take i).countP fun y => decide (x < y)
theorem gtc14_succ (xs : List Int) (x : Int) (i : Nat) (h : i < xs.length) : gtc14 xs x (i + 1) = gtc14 xs x i + if x < xs.getD i 0 then 1 else 0 := by
  unfold gtc14
  rw [List.take_add_one, List.getElem?_eq_getElem h, List.getD_eq_getElem?_getD, List.getElem?_eq_getElem h, List.countP_append]
  simp only [Option.toList_some, Option.getD_some, List.countP_singleton, decide_eq_true_eq]
theorem gtc14_all (xs : List Int) (x : Int) : gtc14 xs x xs.length = gt14 xs x := by
  unfold gtc14 gt14; rw [List.take_length]
theorem gtc14_le (xs : List Int) (x : Int) (i : Nat) : gtc14 xs x i ≤ xs.length := by
  unfold gtc14; exact Nat.le_trans List.countP_le_length (by rw [List.length_take]; omega)
theorem has_succ14 (xs : List Int) (x : Int) (i : Nat) (h : i < xs.length) : (xs.take (i + 1)).contains x = ((xs.take i).contains x || (xs.getD i 0 == x)) := by
  rw [List.take_add_one, List.getElem?_eq_getElem h, List.getD_eq_getElem?_getD, List.getElem?_eq_getElem h]
  simp only [Option.toList_some, Option.getD_some, List.contains_eq_any_beq, List.any_append, List.any_cons, List.any_nil, Bool.or_false]
  congr 1
  generalize xs[i] = y
  by_cases he : x = y
  · subst he; rfl
  · rw [beq_eq_false_iff_ne.2 he, beq_eq_false_iff_ne.2 (Ne.symm he)]

set_option maxRecDepth 100000 in
set_option maxHeartbeats 2000000 in
theorem quorumMost_of (v : Value) (xs : List Int) (w : World) (h : HasI w v xs) : Calls Try.prog 6 #[v] w fun e w' => e = .returned (.bool true) ∧ Below w.heap.size w w' := by
  obtain ⟨p, c, rfl, hc, hx⟩ := h.parts15
  have hz : com14 [] = 0 := rfl
  have kZ := com_any (.slice none 0 0) [] w (HasI.nil w) (by decide)
  rw [hz] at kZ
  clear hz
  by_cases h0 : xs.length = 0
  · have h0' : ((xs.length : Int) == 0) = true := by rw [h0]; rfl
    clear hx h
    go_enter Try.func6, Try.ntmps6
    go_wp2_with fail
    refine kZ.mono ?_
    rintro e w1 ⟨rfl, hb1⟩
    go_wp2_with fail
    refine (lives14 _).mono ?_
    rintro e w2 ⟨rfl, hb2⟩
    go_wp2
    go_ret
    exact ⟨rfl, hb1.trans (hb2.mono hb1.size)⟩
  · have h0' : ((xs.length : Int) == 0) = false := by rw [beq_eq_false_iff_ne]; omega
    by_cases hl : xs.length > 300
    · have hl' : (xs.length : Int) > 300 := by omega
      clear hx h
      go_enter Try.func6, Try.ntmps6
      go_wp2_with fail
      refine kZ.mono ?_
      rintro e w1 ⟨rfl, hb1⟩
      go_wp2_with fail
      refine (lives14 _).mono ?_
      rintro e w2 ⟨rfl, hb2⟩
      go_wp2
      go_ret
      exact ⟨rfl, hb1.trans (hb2.mono hb1.size)⟩
    · have hl' : ¬ (xs.length : Int) > 300 := by omega
      clear kZ
      have hI := com_is xs (by omega)
      have kC := com_any _ xs w h (by omega)
      have hmaj := majI_nat xs.length
      obtain ⟨m, hm⟩ : ∃ m, m = maj14 xs.length := ⟨_, rfl⟩
      rw [← hm] at hmaj
      have hge : Hid (m ≤ ge14 xs (com14 xs)) := by rw [hm]; exact hI.ge
      have hgt : Hid (gt14 xs (com14 xs) < m) := by rw [hm]; exact hI.gt
      have hin : Hid (xs.contains (com14 xs) = true) := List.contains_iff_mem.2 hI.mem
      clear hm hI h
      generalize com14 xs = x at *
      obtain ⟨n, hn⟩ : ∃ n, n = xs.length := ⟨_, rfl⟩
      rw [← hn] at hl hl' h0 h0' hc kC hx hmaj
      have HN : Hid (n = xs.length) := hn
      rw [← hn]
      clear hn
      go_enter Try.func6, Try.ntmps6
      go_wp2_with fail
      refine kC.mono ?_
      rintro e w1 ⟨rfl, hb1⟩
      have hxa := hx w1 hb1
      clear hx
      go_wp2
      go_loopg [4, 5, 6, 27] n (fun g s4 s5 s6 t wr => ∃ (j a b : Nat) (f : Bool), j ≤ n ∧ n - j ≤ g ∧ t = .int .i64 j ∧ s4 = .bool f ∧ s5 = .int .i64 a ∧ s6 = .int .i64 b ∧ a ≤ 300 ∧ b ≤ 300 ∧ Hid ((xs.take j).contains x = f ∧ cnt14 xs x j = a ∧ gtc14 xs x j = b) ∧ wr = w1)
      case atStart => exact ⟨0, 0, 0, false, by omega, by omega, rfl, rfl, rfl, rfl, by omega, by omega, ⟨rfl, rfl, rfl⟩, rfl⟩
      case round =>
        obtain ⟨j, a, b, f, hj, hg, rfl, rfl, rfl, rfl, ha, hb, hs, rfl⟩ := hrel
        by_cases hlt : j < n
        · cases gk with
          | zero => omega
          | succ g0 =>
            obtain ⟨bb, o, rfl, e1⟩ := hxa j hlt
            have hj1 : (j : Int) < (n : Int) := by omega
            have q1 := has_succ14 xs x j (by rw [← HN.out]; exact hlt)
            have q2 := cnt14_succ xs x j (by rw [← HN.out]; exact hlt)
            have q3 := gtc14_succ xs x j (by rw [← HN.out]; exact hlt)
            have l2 := cnt14_le xs x (j + 1)
            have l3 := gtc14_le xs x (j + 1)
            rw [hs.out.1] at q1
            rw [hs.out.2.1] at q2
            rw [hs.out.2.2] at q3
            rw [← HN.out] at l2 l3
            clear hs hxa kC
            have qq : Hid ((xs.take (j + 1)).contains x = (f || (xs.getD j 0 == x)) ∧ cnt14 xs x (j + 1) = a + (if x ≤ xs.getD j 0 then 1 else 0) ∧ gtc14 xs x (j + 1) = b + (if x < xs.getD j 0 then 1 else 0)) := ⟨q1, q2, q3⟩
            rw [q2] at l2
            rw [q3] at l3
            clear q1 q2 q3
            generalize xs.getD j 0 = y at *
            rcases Int.lt_trichotomy x y with hxy | hxy | hxy
            · rw [if_pos (Int.le_of_lt hxy)] at l2
              rw [if_pos hxy] at l3
              have Q : Hid ((xs.take (j + 1)).contains x = f ∧ cnt14 xs x (j + 1) = a + 1 ∧ gtc14 xs x (j + 1) = b + 1) := by
                have := qq.out
                rw [if_pos (Int.le_of_lt hxy), if_pos hxy, beq_eq_false_iff_ne.2 (by omega), Bool.or_false] at this
                exact this
              have t1 : (y == x) = false := beq_eq_false_iff_ne.2 (by omega)
              have t2 : y ≥ x := by omega
              have t3 : y > x := by omega
              clear qq
              cases f with
              | true =>
                go_wp2
                go_roundg g0
                case rel => exact ⟨j + 1, a + 1, b + 1, true, by omega, by omega, by simp, rfl, by simp, by simp, by omega, by omega, Q, rfl⟩
                case measure => omega
              | false =>
                go_wp2
                go_roundg g0
                case rel => exact ⟨j + 1, a + 1, b + 1, false, by omega, by omega, by simp, rfl, by simp, by simp, by omega, by omega, Q, rfl⟩
                case measure => omega
            · have Q : Hid ((xs.take (j + 1)).contains x = true ∧ cnt14 xs x (j + 1) = a + 1 ∧ gtc14 xs x (j + 1) = b) := by
                have := qq.out
                rw [if_pos (by omega), if_neg (by omega), show (y == x) = true from beq_iff_eq.2 hxy.symm, Bool.or_true] at this
                exact this
              rw [if_pos (by omega)] at l2
              have t1 : (y == x) = true := beq_iff_eq.2 hxy.symm
              have t2 : y ≥ x := by omega
              have t3 : ¬ y > x := by omega
              clear qq hxy l3
              cases f with
              | true =>
                go_wp2
                go_roundg g0
                case rel => exact ⟨j + 1, a + 1, b, true, by omega, by omega, by simp, rfl, by simp, rfl, by omega, by omega, Q, rfl⟩
                case measure => omega
              | false =>
                go_wp2
                go_roundg g0
                case rel => exact ⟨j + 1, a + 1, b, true, by omega, by omega, by simp, rfl, by simp, rfl, by omega, by omega, Q, rfl⟩
                case measure => omega
            · have Q : Hid ((xs.take (j + 1)).contains x = f ∧ cnt14 xs x (j + 1) = a ∧ gtc14 xs x (j + 1) = b) := by
                have := qq.out
                rw [if_neg (by omega), if_neg (by omega), beq_eq_false_iff_ne.2 (by omega), Bool.or_false] at this
                exact this
              have t1 : (y == x) = false := beq_eq_false_iff_ne.2 (by omega)
              have t2 : ¬ y ≥ x := by omega
              have t3 : ¬ y > x := by omega
              clear qq l2 l3
              cases f with
              | true =>
                go_wp2
                go_roundg g0
                case rel => exact ⟨j + 1, a, b, true, by omega, by omega, by simp, rfl, rfl, rfl, by omega, by omega, Q, rfl⟩
                case measure => omega
              | false =>
                go_wp2
                go_roundg g0
                case rel => exact ⟨j + 1, a, b, false, by omega, by omega, by simp, rfl, rfl, rfl, by omega, by omega, Q, rfl⟩
                case measure => omega
        · obtain rfl : j = n := by omega
          obtain rfl : f = true := by rw [← hs.out.1, HN.out, List.take_length]; exact hin.out
          have ga : m ≤ a := by rw [← hs.out.2.1, HN.out, cnt14_all]; exact hge.out
          have gb : b < m := by rw [← hs.out.2.2, HN.out, gtc14_all]; exact hgt.out
          clear hxa kC hs hin hge hgt
          go_wp2_with fail
          refine (maj_any _ _ (by omega)).mono ?_
          rintro e w2 ⟨rfl, rfl⟩
          rw [hmaj]
          go_wp2_with fail
          refine (lives14 _).mono ?_
          rintro e w4 ⟨rfl, hb4⟩
          go_wp2
          go_ret
          exact ⟨rfl, hb1.trans (hb4.mono hb1.size)⟩

set_option maxRecDepth 100000 in
set_option maxHeartbeats 2000000 in
theorem quorumCommits_of (v : Value) (xs : List Int) (w : World) (h : HasI w v xs) : Calls Try.prog 4 #[v] w fun e w' => e = .returned (.bool true) ∧ Below w.heap.size w w' := by
  obtain ⟨p, c, rfl, hc, hx⟩ := h.parts15
  by_cases hl : xs.length > 300
  · have hl' : (xs.length : Int) > 300 := by omega
    clear hx h
    go_enter Try.func4, Try.ntmps4
    go_wp2_with (refine (lives14 _).mono ?_; rintro e w1 ⟨rfl, hb⟩)
    go_ret
    exact ⟨rfl, hb⟩
  · have hl' : ¬ (xs.length : Int) > 300 := by omega
    go_enter Try.func4, Try.ntmps4
    have hE := OwnsI.empty14 w
    have hH := h.below ((Below.refl w.heap.size w).alloc (Nat.le_refl _) (.cells #[] 3)) (Nat.le_refl _)
    go_wp2_with (at_builtin; refine ap_ints14 _ rfl _ _ rfl w.heap.size _ [] xs rfl hH hE (by simp) (by omega) (by simp) ?_; intro v1 w1 hO1 hb1)
    rw [List.nil_append] at hO1
    obtain ⟨p1, c1, rfl, hc1, hx1⟩ := hO1.has.parts15
    refine (com_any _ xs w1 hO1.has (by omega)).mono ?_
    rintro e w2 ⟨rfl, hb2⟩
    have hW : Below w.heap.size w w2 := ((Below.refl w.heap.size w).alloc (Nat.le_refl _) (.cells #[] 3)).trans (hb1.trans (hb2.mono (by have := hb1.size; simp at this; omega)))
    have hxa := fun k => hx1 (w2.drewN k) (below_drew14 hb2)
    have hxb := fun k => hx (w2.drewN k) (below_drew14 hW)
    have hR := fun k => (rcom_any _ xs (w2.drewN k) (h.below (below_drew14 hW) (Nat.le_refl _)) (by omega))
    obtain ⟨n, hn⟩ : ∃ n, n = xs.length := ⟨_, rfl⟩
    rw [← hn] at hxa hxb hR hl hl' hc hc1
    have HN : Hid (n = xs.length) := hn
    clear hx hx1 hO1 h hE hH hb1 hb2
    rw [← hn]
    clear hn
    generalize com14 xs = m at *
    go_wp2
    go_loopg [17] n (fun g t wr => ∃ j k : Nat, j ≤ n ∧ n - j ≤ g ∧ t = .int .i64 j ∧ wr = w2.drewN k)
    case atStart => exact ⟨0, 0, by omega, by omega, rfl, rfl⟩
    case round =>
      obtain ⟨j, k, hj, hg, rfl, rfl⟩ := hrel
      by_cases hlt : j < n
      · cases gk with
        | zero => omega
        | succ g0 =>
          obtain ⟨b1, o1, rfl, e1⟩ := hxa k j hlt
          obtain ⟨b2, o2, rfl, e2⟩ := hxb k j hlt
          have hj1 : (j : Int) < (n : Int) := by omega
          clear hxa hxb hR
          generalize xs.getD j 0 = y at *
          obtain ⟨X, hX⟩ : ∃ X, X = w2.drewN k := ⟨_, rfl⟩
          rw [← hX] at e1 e2 ⊢
          have HX : Hid (X = w2.drewN k) := hX
          clear hX
          have hyy : (y != y) = false := by simp
          go_wp2
          go_quiet (fail)
          go_wp2
          go_roundg g0
          case rel => exact ⟨j + 1, _, by omega, by omega, by simp, by rw [HX.out]; exact World.drewN_drewN _ _ _⟩
          case measure => omega
      · obtain rfl : j = n := by omega
        clear hxa hxb
        go_wp2_with fail
        refine (hR k).mono ?_
        rintro e w3 ⟨rfl, q, rfl⟩
        go_wp2_with fail
        refine (lives14 _).mono ?_
        rintro e w4 ⟨rfl, hb4⟩
        go_wp2
        go_ret
        exact ⟨rfl, hW.trans ((below_drew14 (Below.refl _ _)).trans (hb4.mono hW.size))⟩
end Go.Proofs.Ytjaoljhbnbaeaaa
