/-
  The law CodecShort: its walk.
-/
import Derived.Test.YtmlekbabofldoabDoorLives
import Derived.Test.YtmlekbabofldoabDoorW5
import Derived.Test.YtmlekbabofldoabDoorShort0
import Derived.Lib.AppendZerosOnto
import Derived.Lib.SmallJoins
namespace Go.Proofs.YtmlekbabofldoabDoor
open Go.RowKit

/-- 'append([]byte{z}, make([]byte, 8)...)'. -/
theorem ap_zeros8 {P : Program} {ops : Array Oper} {rest : List Oper} {o : Oper} {a : Act} {Q : Exit → Act → World → Prop} (w : World) (hgd : o.guard = none) (s x : Operand) (t tn : TypeId)
    (ho : o.op = .call { callee := .builtin .append, args := #[s, x], argTypes := #[t, tn] })
    (e : TypeId) (i : TypeInfo) (ht : P.underlying t = some (.slice e)) (htn : P.underlying tn = some (.int .i64)) (hi : P.info? e = some i) (hz : i.zero = some (.int .u8 0)) (hsize : i.size = 1) (hby : i.bytes = 1)
    (z : Int) (hs : a.eval s = .slice (some ⟨w.heap.size, 0, none⟩) 1 1) (hx : a.eval x = .int .i64 8)
    (h : ∀ g cap w', Owns w' w.heap.size e (.slice (some ⟨g, 0, none⟩) 9 cap) [z, 0, 0, 0, 0, 0, 0, 0, 0] → w.heap.size ≤ g → 9 ≤ cap → Below w.heap.size w w' → wpList P ops Q rest (a.put o.dst (.slice (some ⟨g, 0, none⟩) 9 cap)) w') :
    wpList P ops Q (o :: rest) a (w.alloc (.cells #[.int .u8 z] e)) := by
  have hold : (Builtin.firstCells i.size 1 (.slice (some ⟨w.heap.size, 0, none⟩) 1 1)).run P (w.alloc (.cells #[.int .u8 z] e)).drew = .ok ([Value.int .u8 z] : List Value).toArray (w.alloc (.cells #[.int .u8 z] e)).drew :=
    run_firstCells_some _ i.size 1 ⟨w.heap.size, 0, none⟩ 1 1 [.int .u8 z] (by rw [hsize]; rfl) (by
      intro j v hj
      match j, hj with
      | 0, hj => simp at hj; subst hj; simp [Addr.add])
  have hr := Lib.run_append_grow_zeros (P := P) (w.alloc (.cells #[.int .u8 z] e)) t tn o.type e i (.int .u8 0) .i64 .i64 ht htn hi hz (some ⟨w.heap.size, 0, none⟩) 1 1 [.int .u8 z] hold 8 (by decide) (by omega) (by decide) (by decide) (by rw [hby]; decide) (by rw [hby]; decide)
  have hge := grownCap_ge (w.alloc (.cells #[.int .u8 z] e)) (1 + 8) 1 e
  have hcm : grownCap (w.alloc (.cells #[.int .u8 z] e)) (1 + 8) 1 e ≤ maxLen := grownCap_le_maxLen _ (1 + 8) 1 e (by unfold maxLen; omega)
  generalize grownCap (w.alloc (.cells #[.int .u8 z] e)) (1 + 8) 1 e = cap at *
  refine Lib.wpList_append_run _ hgd s x t tn ho _ _ hs hx _ _ hr (h _ cap _ ?_ (by simp) hge ?_)
  · refine ⟨rfl, .inr ⟨_, cap, _, rfl, by simp, heap_alloc_new _ _, hge, hcm, ?_, ?_⟩⟩
    · simp only [Array.size_append, List.size_toArray, size_zeroCells, List.length_cons, List.length_nil, show (Value.int IntKind.u8 0).cells.size = 1 from rfl]
      omega
    · simp only [Array.toList_append, List.append_assoc]
      rw [← List.append_assoc, show [Value.int .u8 z] ++ (Builtin.zeroCells (Value.int .u8 0).cells 8).toList = cellsB [z, 0, 0, 0, 0, 0, 0, 0, 0] from by simp [Builtin.zeroCells, cellsB, Value.cells]; rfl]
      rw [show ([z, 0, 0, 0, 0, 0, 0, 0, 0] : List Int).length * 1 = (cellsB [z, 0, 0, 0, 0, 0, 0, 0, 0]).length from rfl]
      exact List.take_left
  · exact (((Below.refl w.heap.size w).alloc (Nat.le_refl _) _).drew).alloc (by simp) _

set_option maxHeartbeats 2000000 in
theorem short_any (u : Int) (w : World) (hT : Tab w) (hu : 0 ≤ u ∧ u ≤ 18446744073709551615) :
    Calls Tryd.prog 4 #[.int .u64 u] w fun e w' => e = .returned (.bool true) ∧ Below w.heap.size w w' := by
  obtain ⟨U, rfl⟩ := Int.eq_ofNat_of_zero_le hu.1
  have hU : U < 18446744073709551616 := by omega
  have hk := more_le U
  have S1 := fun i => sevens_pos U i hU
  have S2 := sevens_end U hU
  have S3 := fun i => sevens_bd U i hU
  have S4 : ∀ i, Hid (sevens U (i + 1) = sevens U i / 128) := sevens_step U
  have S5 : Hid (sevens U 0 = (U : Int) / 128) := sevens_zero U
  have NB : Hid ((numB U).length = more U + 1) := numB_length U
  have GE : Hid (∀ i, i ≤ more U → getS ((numB U).take i) = (0, 0)) := getS_early U (by omega) (by omega)
  have GN : Hid (∀ r, getS (numB U ++ r) = ((U : Int), more U + 1)) := getS_numB U (by omega) (by omega)
  have GW : Hid (more U < 8 → getS (wideB U 8) = (0, 0)) := getS_wide U (by omega) (by omega)
  generalize sevens U = X at *
  generalize more U = k at *
  obtain ⟨i0, hi, hz0, hz1, hz2⟩ := info_parts info8
  go_enter Tryd.func4, Tryd.ntmps4
  go_wp2_with fail
  refine (put_any _ [] U _ (Has.nil _) (by simp) (by omega) (by omega)).mono ?_
  rintro e w1 ⟨v1, rfl, ho1, hb1⟩
  rw [List.nil_append] at ho1
  obtain ⟨p1, c1, rfl, hc1, _, _⟩ := id ho1.has
  rw [NB.out] at ho1 hc1 ⊢
  have HO1 : Hid (Owns w1 w.heap.size 5 (.slice p1 (k + 1) c1) (numB U)) := ho1
  have HB1 : Hid (Below w.heap.size w w1) := hb1
  clear ho1 hb1
  go_wp2_with fail
  go_loop [5, 4] (fun x n => ∃ i : Nat, i ≤ k ∧ n = .int .i64 ((i : Int) + 1) ∧ x = .int .u64 (X i)) (fun _ n => 10 - (intOf n).toNat)
  case atStart => exact ⟨0, Nat.zero_le _, rfl, by rw [S5.out]⟩
  case round =>
    obtain ⟨i, hik, rfl, rfl⟩ := hrel
    have hb := S3 i
    by_cases hlt : i < k
    · have hp := S1 i hlt
      have H4 := S4 i
      clear S1 S2 S3 S4 S5
      go_wp2
      go_round
      case rel => exact ⟨i + 1, by omega, by go_num, by rw [H4.out]⟩
      case measure => simp [intOf]; omega
    · obtain rfl : i = k := by omega
      have hcase : X i = 0 ∨ (0 < X i ∧ 8 ≤ i) := by
        by_cases h8 : i < 8
        · exact Or.inl (S2 h8)
        · have := hb.1; rcases Int.lt_or_eq_of_le this with h | h
          · exact Or.inr ⟨h, by omega⟩
          · exact Or.inl h.symm
      clear S1 S2 S3 S4 S5
      rcases hcase with hX | ⟨hX, h8⟩
      all_goals
        go_wp2_with (first
          | (at_builtin; refine ap_slice _ rfl (.tmp 30) (.tmp 31) 22 rfl w1.heap.size 5 i0 Tryd.underlying22 hi hz0 hz1 hz2 _ [] (numB U) rfl (by exact HO1.out.has.below ((Below.refl w1.heap.size w1).alloc (Nat.le_refl _) _) (Nat.le_refl _)) (by exact Owns.empty w1 w1.heap.size _ (Nat.le_refl _)) (by simp) (by rw [NB.out]; omega) (by simp) ?_; intro v2 w2 ho2 hb2; rw [List.nil_append] at ho2)
          | (at_builtin; refine ap_slice _ rfl (.tmp 32) (.tmp 33) 22 rfl w1.heap.size 5 i0 Tryd.underlying22 hi hz0 hz1 hz2 _ (numB U) [255, 1] rfl (by exact Has.lit w2 [255, 1] 5) (by exact ho2.below ((Below.refl w2.heap.size w2).alloc (Nat.le_refl _) _) (Nat.le_refl _)) (by rw [NB.out]; omega) (by simp) (by have := hb2.size; simp at this ⊢; omega) ?_; intro v3 w3 ho3 hb3))
        have hb13 : Below w1.heap.size w1 w3 := ((((Below.refl w1.heap.size w1).alloc (Nat.le_refl _) _).trans hb2).alloc (by have := hb2.size; simp at this; omega) _).trans hb3
        refine (get_any _ (numB U ++ [255, 1]) _ ho3.has (IsB.append (numB_isB U) (IsB.cons (by omega) (IsB.cons (by omega) IsB.nil))) (by rw [List.length_append, NB.out]; simp; omega)).mono ?_
        rintro e w4 ⟨rfl, hb4⟩
        have HB4 : Hid (Below w1.heap.size w1 w4) := hb13.trans (hb4.mono hb13.size)
        rw [GN.out]
        clear hb13 hb4 ho2 ho3 hb2 hb3
        go_wp2_with fail
        go_loopw [8] (fun t wr => ∃ j : Nat, j ≤ i + 1 ∧ t = .int .i64 j ∧ Below w1.heap.size w1 wr) (fun t _ => i + 1 - (intOf t).toNat)
        case atStart => exact ⟨0, Nat.zero_le _, rfl, HB4.out⟩
        case round =>
          obtain ⟨j, hj, rfl, hbr⟩ := hrel
          by_cases hlt2 : j < i + 1
          · go_wp2_with fail
            refine (get_any _ ((numB U).take j) _ ((HO1.out.has.below hbr (Nat.le_refl _)).takeN j (by rw [NB.out]; omega)) (fun x hx => numB_isB U x (List.mem_of_mem_take hx)) (by have := numB_le U; rw [List.length_take]; omega)).mono ?_
            rintro e w5 ⟨rfl, hb5⟩
            rw [GE.out j (by omega)]
            go_wp2
            go_roundw
            case rel => exact ⟨j + 1, by omega, by go_num, hbr.trans (hb5.mono hbr.size)⟩
            case measure => simp [intOf]; omega
          · obtain rfl : j = i + 1 := by omega
            have hbw : Below w.heap.size w wr := HB1.out.trans (hbr.mono HB1.out.size)
            by_cases hi8 : 8 ≤ i
            · go_wp2_with (go_at_call 7; refine (lives_any _ (hT.below hbw (Nat.le_refl _))).mono ?_; rintro e w6 ⟨rfl, hb6⟩)
              go_ret
              exact ⟨rfl, hbw.trans (hb6.mono hbw.size)⟩
            · by_cases hi0 : i = 0
              · go_wp2_with (go_at_call 7; refine (lives_any _ (hT.below hbw (Nat.le_refl _))).mono ?_; rintro e w6 ⟨rfl, hb6⟩)
                go_ret
                exact ⟨rfl, hbw.trans (hb6.mono hbw.size)⟩
              · first
                  | (exfalso; omega)
                  | (go_wp2_with (at_builtin; refine ap_zeros8 _ rfl (.tmp 72) _ 22 3 rfl 5 i0 Tryd.underlying22 Tryd.underlying3 hi hz0 hz1 hz2 255 rfl rfl ?_; intro g cap w6 ho6 hg6 hc6 hb6)
                     clear hc1
                     go_loopw [12] (fun t wr2 => ∃ j : Nat, j ≤ 8 ∧ t = .int .i64 j ∧ Owns wr2 wr.heap.size 5 (.slice (some ⟨g, 0, none⟩) 9 cap) (wideB U j) ∧ Below wr.heap.size wr wr2) (fun t _ => 8 - (intOf t).toNat)
                     case atStart => exact ⟨0, Nat.zero_le _, rfl, by rw [wide_zero]; exact ho6, hb6⟩
                     case round =>
                       obtain ⟨j, hj, rfl, hor, hbr2⟩ := hrel
                       by_cases hlt3 : j < 8
                       · have hcl := World.ownsRow.cellAt hor (8 - j) (by omega)
                         have hfr := World.ownsRow.frozenAt hor (8 - j)
                         have hst := Owns.store (xs := wideB U j) (by rw [wide_length]; exact hor) (8 - j) ((U : Int) / 2 ^ (8 * j) % 256)
                         rw [wide_step U j hlt3, wide_length] at hst
                         have HST : Hid (_ ∧ _) := hst
                         obtain ⟨cv, hcv⟩ : ∃ cv, (cellsB (wideB U j))[8 - j]? = some cv := ⟨_, List.getElem?_eq_getElem (by rw [cellsB_length, wide_length]; omega)⟩
                         rw [hcv] at hcl
                         clear hcv hst hor
                         go_wp2
                         go_roundw
                         case rel => exact ⟨j + 1, by omega, by go_num, HST.out.1, hbr2.grown HST.out.2 hbr2.size (fun k hk => by cases hk; exact hg6)⟩
                         case measure => simp [intOf]; omega
                       · obtain rfl : j = 8 := by omega
                         go_wp2_with fail
                         refine (get_any _ (wideB U 8) _ hor.has (wide_isB U 8) (by rw [wide_length]; omega)).mono ?_
                         rintro e w7 ⟨rfl, hb7⟩
                         rw [GW.out (by omega)]
                         have hbw7 := (hbw.trans (hbr2.mono hbw.size)).trans (hb7.mono (hbw.trans (hbr2.mono hbw.size)).size)
                         clear hor hbr2 hb7
                         go_wp2_with (go_at_call 7; refine (lives_any _ (hT.below hbw7 (Nat.le_refl _))).mono ?_; rintro e w8 ⟨rfl, hb8⟩)
                         go_ret
                         exact ⟨rfl, hbw7.trans (hb8.mono hbw7.size)⟩)
end Go.Proofs.YtmlekbabofldoabDoor
