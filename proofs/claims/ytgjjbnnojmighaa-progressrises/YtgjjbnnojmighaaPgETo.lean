import Derived.Test.YtgjjbnnojmighaaPgA
import Derived.Test.YtgjjbnnojmighaaRlTo
namespace Go.Proofs.Ytgjjbnnojmighaa
open Go.RowKit
theorem Ob16.drewN {w : World} {b : Nat} {p : PP} (h : Ob16 w b p) (m : Nat) : Ob16 (w.drewN m) b p := box_below16 h (below_drewN16 (Below.refl _ _) m)
set_option maxRecDepth 100000 in
set_option maxHeartbeats 1000000 in
theorem mayF16 (k : Int) (w : World) : Calls Try.prog 21 #[.int .i64 k] w fun e w' => e = .returned (.func (.func (if k = 1 then 22 else if k = 2 then 23 else 24)) #[] #[]) ∧ w' = w := by
  by_cases h1 : k = 1
  · subst h1
    go_enter Try.func21, Try.ntmps21
    go_wp2
    go_ret
    exact ⟨rfl, rfl⟩
  · by_cases h2 : k = 2
    · subst h2
      go_enter Try.func21, Try.ntmps21
      go_wp2
      go_ret
      exact ⟨rfl, rfl⟩
    · have e1 : (k == 1) = false := by rw [beq_eq_false_iff_ne]; exact h1
      have e2 : (k == 2) = false := by rw [beq_eq_false_iff_ne]; exact h2
      rw [if_neg h1, if_neg h2]
      go_enter Try.func21, Try.ntmps21
      go_wp2
      go_ret
      exact ⟨rfl, rfl⟩
theorem counted16q (n : Int) (w : World) : Calls Try.prog 18 #[.int .i64 n] w fun e w' => e = .returned (.int .i64 (cnt16 n)) ∧ ∃ m, w' = w.drewN m := (counted16 n w).mono fun _ _ h => ⟨h.1, 0, h.2⟩
section
variable {w w' : World} {b : Nat} {p : PP}
set_option maxRecDepth 100000 in
set_option maxHeartbeats 1000000 in
theorem sent16 (h : PAt w b p) (n : Int) : Calls Try.prog 11 #[.pointer (some ⟨b, 0, none⟩), .int .i64 n] w fun e w' => e = .returned (.tuple #[]) ∧ PTurn w b (p.sent n) w' := by
  have km := made16 h
  obtain ⟨c0, c1, c2, c3, c4⟩ := h.cells
  have hlt := h.lt
  have f0 := h.frozen 0
  have f4 := h.frozen 4
  have HI : Hid (p.sent n).Inv := (h.inv.sent n).1
  have HB : Hid p.Inv := h.inv
  have HH : Hid (Ob16 w b p) := h.obj
  have hm := h.inv.mode
  clear h
  rcases hm with hm | hm | hm
  · have HF : Hid (p.sent n = ⟨p.next, p.m, p.mode, p.snap, true⟩) := if_pos hm
    rw [hm] at c2
    clear hm
    go_enter Try.func11, Try.ntmps11
    go_wp2_with fail
    refine same_mono km ?_
    go_wp2
    go_end0
    refine ⟨rfl, ⟨?_, HI.out⟩, below_set16 w (Nat.le_refl b) _ _⟩
    rw [HF.out]
    exact HH.out.busy true
  · have HF : Hid (p.sent n = ⟨max p.next (min (p.next + cnt16 n) 1125899906842624), p.m, p.mode, p.snap, p.busy⟩) := (if_neg (by rw [hm]; decide)).trans (if_pos hm)
    rw [hm] at c2
    clear hm
    have hq : ∀ m, Calls Try.prog 18 #[.int .i64 n] (w.drewN m) fun e w' => e = .returned (.int .i64 (cnt16 n)) ∧ ∃ m', w' = (w.drewN m).drewN m' := fun m => counted16q n _
    have hc := cnt16_in n
    have hn := HB.out.n1
    have hn0 : 0 < p.next := by have := HB.out.up; have := HB.out.m0; omega
    have HX : Hid ((if p.next < if 1125899906842624 < p.next + cnt16 n then 1125899906842624 else p.next + cnt16 n then if 1125899906842624 < p.next + cnt16 n then 1125899906842624 else p.next + cnt16 n else p.next) = max p.next (min (p.next + cnt16 n) 1125899906842624)) := by
      rw [Hid]
      repeat' split
      all_goals omega
    have hw : IntKind.i64.wrap (p.next + cnt16 n) = p.next + cnt16 n := by rw [IntKind.wrap_i64]; omega
    go_enter Try.func11, Try.ntmps11
    go_wp2_with fail
    refine same_mono km ?_
    go_wp2_with fail
    refine wp_last (by kernel_rfl) (by kernel_rfl) ?_
    dsimp only [initL, lastL]
    repeat (go_big_quiet_step ((go_at_call 18; exact Calls.quiet_of (hq _))))
    refine wpQuiet_nil ?_
    rintro _ ⟨nr, rfl⟩
    rw [HX.out]
    have h1 := HH.out.drewN nr
    have HN := h1.next (max p.next (min (p.next + cnt16 n) 1125899906842624))
    have f0' := h1.frozen 0
    have c0' : (w.drewN nr).cell? ⟨b, 0, none⟩ = some (.int .i64 p.next) := h1.cell 0
    have hlt' := h1.lt
    have HT : Hid (PTurn w b (p.sent n) ((w.drewN nr).setCell ⟨b, 0, none⟩ (.int .i64 (max p.next (min (p.next + cnt16 n) 1125899906842624))))) := ⟨⟨by rw [HF.out]; exact HN, HI.out⟩, (below_drewN16 (Below.refl _ _) nr).trans (below_set16 _ (Nat.le_refl b) _ _)⟩
    clear h1 HN
    generalize max p.next (min (p.next + cnt16 n) 1125899906842624) = X at *
    generalize w.drewN nr = V at *
    generalize (if 1125899906842624 < p.next + cnt16 n then (1125899906842624 : Int) else p.next + cnt16 n) = Y
    gi_wp2
    go_end0
    exact ⟨rfl, HT.out⟩
  · have HF : Hid (p.sent n = p) := (if_neg (by rw [hm]; decide)).trans (if_neg (by rw [hm]; decide))
    rw [hm] at c2
    clear hm
    go_enter Try.func11, Try.ntmps11
    go_wp2_with fail
    refine same_mono km ?_
    go_wp2
    go_end0
    rw [HF.out]
    exact ⟨rfl, ⟨HH.out, HB.out⟩, Below.refl _ _⟩
set_option maxRecDepth 100000 in
set_option maxHeartbeats 1000000 in
theorem snap16 (h : PAt w b p) (n : Int) : Calls Try.prog 15 #[.pointer (some ⟨b, 0, none⟩), .int .i64 n] w fun e w' => e = .returned (.tuple #[]) ∧ PTurn w b (p.snapped n) w' := by
  have km := made16 h
  obtain ⟨c0, c1, c2, c3, c4⟩ := h.cells
  have hlt := h.lt
  have HI : Hid (p.snapped n).Inv := (h.inv.snapped n).1
  have kt := turn16 h.obj 3 p.next
  clear h
  go_enter Try.func15, Try.ntmps15
  go_wp2_with fail
  refine same_mono km ?_
  go_wp2_with fail
  refine kt.mono ?_
  rintro e w1 ⟨rfl, h1, hb1⟩
  have d3 := h1.cells.2.2.2.1
  have g3 := h1.frozen 3
  have hlt1 := h1.lt
  have kc := counted16 n w1
  clear km kt
  go_wp2_with fail
  refine same_mono kc ?_
  go_wp2
  go_end0
  exact ⟨rfl, ⟨h1.snap _, HI.out⟩, hb1.trans (below_set16 _ (Nat.le_refl b) _ _)⟩
set_option maxRecDepth 100000 in
set_option maxHeartbeats 1000000 in
theorem beat16 (h : PAt w b p) : Calls Try.prog 17 #[.pointer (some ⟨b, 0, none⟩)] w fun e w' => e = .returned (.tuple #[]) ∧ PTurn w b p.beat w' := by
  have km := made16 h
  obtain ⟨c0, c1, c2, c3, c4⟩ := h.cells
  have hlt := h.lt
  have f4 := h.frozen 4
  have HI : Hid p.beat.Inv := h.inv.beat.1
  have HH : Hid (Ob16 w b p) := h.obj
  have HM : Hid (p.m ≤ 1125899906842624 ∧ 0 ≤ p.m) := ⟨h.inv.m1, h.inv.m0⟩
  have h2 := HH.out.busy false
  clear h
  by_cases hm : p.mode = 3
  · have HF : Hid (p.beat = p.turn 1 (p.m + 1)) := if_pos hm
    have kt := turn16 h2 1 (p.m + 1)
    have hw : IntKind.i64.wrap (p.m + 1) = p.m + 1 := by have := HM.out; rw [IntKind.wrap_i64]; omega
    obtain ⟨d0, d1, d2, d3, d4⟩ := h2.cells
    have hl2 := h2.lt
    dsimp only at d1 d2
    rw [hm] at d2
    have HB : Hid _ := below_set16 w (Nat.le_refl b) 4 (.bool false)
    generalize hW : w.setCell ⟨b, 4, none⟩ (.bool false) = W at *
    go_enter Try.func17, Try.ntmps17
    go_wp2_with fail
    refine same_mono km ?_
    go_wp2_with fail
    refine kt.mono ?_
    rintro e w1 ⟨rfl, h1, hb1⟩
    go_wp2
    go_end0
    exact ⟨rfl, ⟨by rw [HF.out]; exact h1, HI.out⟩, HB.out.trans hb1⟩
  · have HF : Hid (p.beat = ⟨p.next, p.m, p.mode, p.snap, false⟩) := if_neg hm
    have hm' : (p.mode == 3) = false := by rw [beq_eq_false_iff_ne]; exact hm
    obtain ⟨d0, d1, d2, d3, d4⟩ := h2.cells
    have hl2 := h2.lt
    dsimp only at d2
    have HB : Hid _ := below_set16 w (Nat.le_refl b) 4 (.bool false)
    generalize hW : w.setCell ⟨b, 4, none⟩ (.bool false) = W at *
    go_enter Try.func17, Try.ntmps17
    go_wp2_with fail
    refine same_mono km ?_
    go_wp2
    go_end0
    exact ⟨rfl, ⟨by rw [HF.out]; exact h2, HI.out⟩, HB.out⟩
set_option maxRecDepth 100000 in
set_option maxHeartbeats 1000000 in
theorem one16 (h : PAt w b p) : Calls Try.prog 22 #[.pointer (some ⟨b, 0, none⟩)] w fun e w' => e = .returned (.bool (!p.busy)) ∧ w' = w := by
  obtain ⟨c0, c1, c2, c3, c4⟩ := h.cells
  have hlt := h.lt
  clear h
  go_enter Try.func22, Try.ntmps22
  go_wp2
  go_ret
  exact ⟨rfl, rfl⟩
set_option maxRecDepth 100000 in
theorem all16 (v : Value) : Calls Try.prog 23 #[v] w fun e w' => e = .returned (.bool true) ∧ w' = w := by
  go_enter Try.func23, Try.ntmps23
  go_wp2
  go_ret
  exact ⟨rfl, rfl⟩
set_option maxRecDepth 100000 in
theorem nothing16 (v : Value) : Calls Try.prog 24 #[v] w fun e w' => e = .returned (.bool false) ∧ w' = w := by
  go_enter Try.func24, Try.ntmps24
  go_wp2
  go_ret
  exact ⟨rfl, rfl⟩
set_option maxRecDepth 100000 in
set_option maxHeartbeats 1000000 in
theorem may16 (h : PAt w b p) : Calls Try.prog 16 #[.pointer (some ⟨b, 0, none⟩)] w fun e w' => e = .returned (.bool p.may) ∧ w' = w := by
  have km := made16 h
  obtain ⟨c0, c1, c2, c3, c4⟩ := h.cells
  have hlt := h.lt
  have hm := h.inv.mode
  have k1 := one16 h
  have HF : Hid (p.may = (decide (p.mode = 2) || decide (p.mode = 1) && !p.busy)) := rfl
  clear h
  generalize p.may = r at *
  rcases hm with hm | hm | hm
  · rw [hm] at c2 HF
    clear hm
    have kf := mayF16 1 w
    rw [if_pos rfl] at kf
    go_enter Try.func16, Try.ntmps16
    go_wp2_with fail
    refine same_mono km ?_
    go_wp2_with fail
    refine same_mono kf ?_
    go_wp2_with fail
    refine same_mono k1 ?_
    go_wp2
    go_ret
    exact ⟨by rw [HF.out]; simp, rfl⟩
  · rw [hm] at c2 HF
    clear hm
    have kf := mayF16 2 w
    rw [if_neg (by decide), if_pos rfl] at kf
    go_enter Try.func16, Try.ntmps16
    go_wp2_with fail
    refine same_mono km ?_
    go_wp2_with fail
    refine same_mono kf ?_
    go_wp2_with fail
    refine same_mono (all16 _) ?_
    go_wp2
    go_ret
    exact ⟨by rw [HF.out]; simp, rfl⟩
  · rw [hm] at c2 HF
    clear hm
    have kf := mayF16 3 w
    rw [if_neg (by decide), if_neg (by decide)] at kf
    go_enter Try.func16, Try.ntmps16
    go_wp2_with fail
    refine same_mono km ?_
    go_wp2_with fail
    refine same_mono kf ?_
    go_wp2_with fail
    refine same_mono (nothing16 _) ?_
    go_wp2
    go_ret
    exact ⟨by rw [HF.out]; simp, rfl⟩
end
section
variable {w w' : World} {b : Nat} {p : PP}
set_option maxRecDepth 100000 in
set_option maxHeartbeats 1000000 in
theorem said16 (h : PAt w b p) (n : Int) : Calls Try.prog 12 #[.pointer (some ⟨b, 0, none⟩), .int .i64 n] w fun e w' => e = .returned (.bool (p.said n).1) ∧ PTurn w b (p.said n).2 w' := by
  have km := made16 h
  have km0 := km
  have kc := counted16 n w
  have hc := cnt16_in n
  obtain ⟨c0, c1, c2, c3, c4⟩ := h.cells
  have hlt := h.lt
  have HI : Hid (p.said n).2.Inv := (h.inv.said n).1
  have HB : Hid p.Inv := h.inv
  have HH : Hid (Ob16 w b p) := h.obj
  have hn := h.inv.n1
  have hn0 : 0 < p.next := by have := h.inv.up; have := h.inv.m0; omega
  have hm1 : 0 ≤ p.m ∧ p.m ≤ 1125899906842624 := ⟨h.inv.m0, h.inv.m1⟩
  clear h
  by_cases h1 : cnt16 n < p.m
  · have HF : Hid (p.said n = (false, p)) := if_pos h1
    rw [HF.out]
    generalize cnt16 n = c at *
    go_enter Try.func12, Try.ntmps12
    go_wp2_with fail
    refine same_mono kc ?_
    go_wp2_with fail
    refine same_mono km ?_
    go_wp2
    go_ret
    exact ⟨rfl, ⟨HH.out, HB.out⟩, Below.refl _ _⟩
  · have hw : IntKind.i64.wrap (cnt16 n + 1) = cnt16 n + 1 := by rw [IntKind.wrap_i64]; omega
    have HF : Hid (p.said n = (decide (p.m < cnt16 n), if p.mode = 1 ∨ p.mode = 3 ∧ p.snap ≤ cnt16 n then (p.up16 (cnt16 n)).turn 2 (cnt16 n + 1) else p.up16 (cnt16 n))) := if_neg h1
    rw [HF.out] at HI ⊢
    have f0 := HH.out.frozen 0
    have f1 := HH.out.frozen 1
    have hmo := HB.out.mode
    generalize hC : cnt16 n = c at *
    clear hC
    rcases Int.lt_or_le p.next (c + 1) with hx | hx
    · have hX : max p.next (c + 1) = c + 1 := by omega
      have h2 : Ob16 ((w.setCell ⟨b, 1, none⟩ (.int .i64 c)).setCell ⟨b, 0, none⟩ (.int .i64 (c + 1))) b (p.up16 c) := by
        have := (HH.out.m c).next (c + 1)
        unfold PP.up16
        rw [hX]
        exact this
      have hb2 : Below b w ((w.setCell ⟨b, 1, none⟩ (.int .i64 c)).setCell ⟨b, 0, none⟩ (.int .i64 (c + 1))) := (below_set16 w (Nat.le_refl b) _ _).trans (below_set16 _ (Nat.le_refl b) _ _)
      clear hX
      obtain ⟨d0, d1, d2, d3, d4⟩ := h2.cells
      unfold PP.up16 at d2 d3
      dsimp only at d2 d3
      have hl2 := h2.lt
      have kt := turn16 h2 2 (c + 1)
      have HO : Hid (Ob16 ((w.setCell ⟨b, 1, none⟩ (.int .i64 c)).setCell ⟨b, 0, none⟩ (.int .i64 (c + 1))) b (p.up16 c)) := h2
      clear d0 d1 d4 h2 HF HH HB km
      have km2 := km0
      generalize hW : (w.setCell ⟨b, 1, none⟩ (.int .i64 c)).setCell ⟨b, 0, none⟩ (.int .i64 (c + 1)) = W at *
      rcases hmo with hm | hm | hm
      · rw [hm] at d2
        rw [if_pos (.inl hm)] at HI ⊢
        clear hm
        go_enter Try.func12, Try.ntmps12
        go_wp2_with fail
        refine same_mono kc ?_
        go_wp2_with fail
        refine same_mono km2 ?_
        go_wp2_with fail
        refine kt.mono ?_
        rintro e w1 ⟨rfl, h1', hb1⟩
        go_wp2
        go_ret
        exact ⟨rfl, ⟨h1', HI.out⟩, hb2.trans hb1⟩
      · rw [hm] at d2
        rw [if_neg (by rw [hm]; rintro (h | ⟨h, -⟩) <;> exact absurd h (by decide))] at HI ⊢
        clear hm
        go_enter Try.func12, Try.ntmps12
        go_wp2_with fail
        refine same_mono kc ?_
        go_wp2_with fail
        refine same_mono km2 ?_
        go_wp2
        go_ret
        exact ⟨rfl, ⟨HO.out, HI.out⟩, hb2⟩
      · rw [hm] at d2
        by_cases hs : p.snap ≤ c
        · rw [if_pos (.inr ⟨hm, hs⟩)] at HI ⊢
          clear hm
          go_enter Try.func12, Try.ntmps12
          go_wp2_with fail
          refine same_mono kc ?_
          go_wp2_with fail
          refine same_mono km2 ?_
          go_wp2_with fail
          refine kt.mono ?_
          rintro e w1 ⟨rfl, h1', hb1⟩
          go_wp2
          go_ret
          exact ⟨rfl, ⟨h1', HI.out⟩, hb2.trans hb1⟩
        · rw [if_neg (by rw [hm]; rintro (h | ⟨-, h⟩); exact absurd h (by decide); exact hs h)] at HI ⊢
          clear hm
          go_enter Try.func12, Try.ntmps12
          go_wp2_with fail
          refine same_mono kc ?_
          go_wp2_with fail
          refine same_mono km2 ?_
          go_wp2
          go_ret
          exact ⟨rfl, ⟨HO.out, HI.out⟩, hb2⟩
    · have hX : max p.next (c + 1) = p.next := by omega
      have h2 : Ob16 ((w.setCell ⟨b, 1, none⟩ (.int .i64 c)).setCell ⟨b, 0, none⟩ (.int .i64 (p.next))) b (p.up16 c) := by
        have := (HH.out.m c).next (p.next)
        unfold PP.up16
        rw [hX]
        exact this
      have hb2 : Below b w ((w.setCell ⟨b, 1, none⟩ (.int .i64 c)).setCell ⟨b, 0, none⟩ (.int .i64 (p.next))) := (below_set16 w (Nat.le_refl b) _ _).trans (below_set16 _ (Nat.le_refl b) _ _)
      clear hX
      obtain ⟨d0, d1, d2, d3, d4⟩ := h2.cells
      unfold PP.up16 at d2 d3
      dsimp only at d2 d3
      have hl2 := h2.lt
      have kt := turn16 h2 2 (c + 1)
      have HO : Hid (Ob16 ((w.setCell ⟨b, 1, none⟩ (.int .i64 c)).setCell ⟨b, 0, none⟩ (.int .i64 (p.next))) b (p.up16 c)) := h2
      clear d0 d1 d4 h2 HF HH HB km
      have km2 := km0
      generalize hW : (w.setCell ⟨b, 1, none⟩ (.int .i64 c)).setCell ⟨b, 0, none⟩ (.int .i64 (p.next)) = W at *
      rcases hmo with hm | hm | hm
      · rw [hm] at d2
        rw [if_pos (.inl hm)] at HI ⊢
        clear hm
        go_enter Try.func12, Try.ntmps12
        go_wp2_with fail
        refine same_mono kc ?_
        go_wp2_with fail
        refine same_mono km2 ?_
        go_wp2_with fail
        refine kt.mono ?_
        rintro e w1 ⟨rfl, h1', hb1⟩
        go_wp2
        go_ret
        exact ⟨rfl, ⟨h1', HI.out⟩, hb2.trans hb1⟩
      · rw [hm] at d2
        rw [if_neg (by rw [hm]; rintro (h | ⟨h, -⟩) <;> exact absurd h (by decide))] at HI ⊢
        clear hm
        go_enter Try.func12, Try.ntmps12
        go_wp2_with fail
        refine same_mono kc ?_
        go_wp2_with fail
        refine same_mono km2 ?_
        go_wp2
        go_ret
        exact ⟨rfl, ⟨HO.out, HI.out⟩, hb2⟩
      · rw [hm] at d2
        by_cases hs : p.snap ≤ c
        · rw [if_pos (.inr ⟨hm, hs⟩)] at HI ⊢
          clear hm
          go_enter Try.func12, Try.ntmps12
          go_wp2_with fail
          refine same_mono kc ?_
          go_wp2_with fail
          refine same_mono km2 ?_
          go_wp2_with fail
          refine kt.mono ?_
          rintro e w1 ⟨rfl, h1', hb1⟩
          go_wp2
          go_ret
          exact ⟨rfl, ⟨h1', HI.out⟩, hb2.trans hb1⟩
        · rw [if_neg (by rw [hm]; rintro (h | ⟨-, h⟩); exact absurd h (by decide); exact hs h)] at HI ⊢
          clear hm
          go_enter Try.func12, Try.ntmps12
          go_wp2_with fail
          refine same_mono kc ?_
          go_wp2_with fail
          refine same_mono km2 ?_
          go_wp2
          go_ret
          exact ⟨rfl, ⟨HO.out, HI.out⟩, hb2⟩
set_option maxRecDepth 100000 in
set_option maxHeartbeats 1000000 in
theorem refused16 (h : PAt w b p) (i n : Int) : Calls Try.prog 13 #[.pointer (some ⟨b, 0, none⟩), .int .i64 i, .int .i64 n] w fun e w' => e = .returned (.bool (p.refused i n).1) ∧ PTurn w b (p.refused i n).2 w' := by
  have km := made16 h
  have kc := counted16 i w
  have kd := counted16 n w
  have hc := cnt16_in i
  have hd := cnt16_in n
  obtain ⟨c0, c1, c2, c3, c4⟩ := h.cells
  have hlt := h.lt
  have HI : Hid (p.refused i n).2.Inv := (h.inv.refused i n).1
  have HB : Hid p.Inv := h.inv
  have HH : Hid (Ob16 w b p) := h.obj
  have hn := h.inv.n1
  have hn0 : 0 < p.next := by have := h.inv.up; have := h.inv.m0; omega
  have hm1 : 0 ≤ p.m ∧ p.m ≤ 1125899906842624 := ⟨h.inv.m0, h.inv.m1⟩
  have hw : IntKind.i64.wrap (cnt16 n + 1) = cnt16 n + 1 := by rw [IntKind.wrap_i64]; omega
  have hw2 : IntKind.i64.wrap (p.m + 1) = p.m + 1 := by rw [IntKind.wrap_i64]; omega
  have hw3 : IntKind.i64.wrap (p.next - 1) = p.next - 1 := by rw [IntKind.wrap_i64]; omega
  clear h
  by_cases h1 : cnt16 i ≤ p.m
  · have HF : Hid (p.refused i n = (false, p)) := if_pos (.inl h1)
    rw [HF.out]
    go_enter Try.func13, Try.ntmps13
    go_wp2_with fail
    refine same_mono kc ?_
    go_wp2_with fail
    refine same_mono kd ?_
    go_wp2_with fail
    refine same_mono km ?_
    go_wp2
    go_ret
    exact ⟨rfl, ⟨HH.out, HB.out⟩, Below.refl _ _⟩
  have enter : True := trivial
  by_cases h2 : p.mode ≠ 2 ∧ cnt16 i ≠ p.next - 1
  · have HF : Hid (p.refused i n = (false, p)) := if_pos (.inr h2)
    rw [HF.out]
    have h3 : (p.mode != 2) = true := bne_iff_ne.2 h2.1
    have h4 : (cnt16 i != p.next - 1) = true := bne_iff_ne.2 h2.2
    clear h2
    generalize cnt16 i = c at *
    go_enter Try.func13, Try.ntmps13
    go_wp2_with fail
    refine same_mono kc ?_
    go_wp2_with fail
    refine same_mono kd ?_
    go_wp2_with fail
    refine same_mono km ?_
    go_wp2
    go_ret
    exact ⟨rfl, ⟨HH.out, HB.out⟩, Below.refl _ _⟩
  have HF : Hid (p.refused i n = (true, p.turn 1 (p.refusedN i n))) := if_neg (by rintro (h | h); exact h1 h; exact h2 h)
  have HN : Hid (p.refusedN i n = max (min (cnt16 i) (cnt16 n + 1)) (p.m + 1)) := rfl
  rw [HF.out] at HI ⊢
  have kt := fun X => turn16 HH.out 1 X
  clear enter
  generalize p.refusedN i n = N at *
  have hmo := HB.out.mode
  have hne : p.mode = 2 ∨ p.mode ≠ 2 ∧ cnt16 i = p.next - 1 := by
    by_cases h : p.mode = 2
    · exact .inl h
    · exact .inr ⟨h, by by_cases h4 : cnt16 i = p.next - 1; exact h4; exact absurd ⟨h, h4⟩ h2⟩
  generalize cnt16 i = c at *
  generalize cnt16 n = d at *
  clear h2
  rcases hne with hm | ⟨hm, he⟩
  · rw [hm] at c2
    clear hm hmo
    go_enter Try.func13, Try.ntmps13
    go_wp2_with fail
    refine same_mono kc ?_
    go_wp2_with fail
    refine same_mono kd ?_
    go_wp2_with fail
    refine same_mono km ?_
    go_wp2_with fail
    all_goals (
      refine (kt _).mono ?_
      rintro e w1 ⟨rfl, h1', hb1⟩
      go_wp2
      go_ret
      refine ⟨rfl, ⟨?_, HI.out⟩, hb1⟩
      rw [show N = _ from HN.out]
      refine cast ?_ h1'
      congr 2
      omega)
  · have hmm : (p.mode == 2) = false := by rw [beq_eq_false_iff_ne]; exact hm
    have HE : Hid (c = p.next - 1) := he
    have hee : (c != p.next - 1) = false := by rw [he]; simp
    clear hm hmo he
    go_enter Try.func13, Try.ntmps13
    go_wp2_with fail
    refine same_mono kc ?_
    go_wp2_with fail
    refine same_mono kd ?_
    go_wp2_with fail
    refine same_mono km ?_
    go_wp2_with fail
    all_goals (
      refine (kt _).mono ?_
      rintro e w1 ⟨rfl, h1', hb1⟩
      go_wp2
      go_ret
      refine ⟨rfl, ⟨?_, HI.out⟩, hb1⟩
      rw [show N = _ from HN.out]
      refine cast ?_ h1'
      congr 2
      omega)
end
theorem live16_0 : pnew16 5 = ⟨5, 0, 1, 0, false⟩ := by kernel_rfl
theorem live16_1 : (PP.mk 5 0 1 0 false).sent 1 = ⟨5, 0, 1, 0, true⟩ := by kernel_rfl
theorem live16_2 : (PP.mk 5 0 1 0 true).refused 4 2 = (true, ⟨3, 0, 1, 0, false⟩) := by kernel_rfl
theorem live16_3 : (PP.mk 3 0 1 0 false).said 2 = (true, ⟨3, 2, 2, 0, false⟩) := by kernel_rfl
theorem live16_4 : (PP.mk 5 0 1 0 false).may = true := by kernel_rfl
theorem live16_5 : (PP.mk 5 0 1 0 true).may = false := by kernel_rfl

set_option maxRecDepth 100000 in
set_option maxHeartbeats 2000000 in
theorem lives16 (w : World) : Calls Try.prog 9 #[] w fun e w' => e = .returned (.bool true) ∧ Below w.heap.size w w' := by
  have l1 := live16_1
  have l2 := live16_2
  have l3 := live16_3
  have l4 := live16_4
  have l5 := live16_5
  have k0 := new16_any 5 w
  rw [live16_0] at k0
  go_enter Try.func9, Try.ntmps9
  go_wp2_with fail
  refine k0.mono ?_
  rintro e w1 ⟨rfl, h1, hb1, hlt1⟩
  have k1 := may16 h1
  have k2 := sent16 h1 1
  rw [l4] at k1
  rw [l1] at k2
  clear k0 l1 l4 h1
  go_wp2_with fail
  refine same_mono k1 ?_
  go_wp2_with fail
  refine k2.mono ?_
  rintro e w2 ⟨rfl, ⟨h2, hb2⟩⟩
  have k3 := may16 h2
  have k4 := refused16 h2 4 2
  rw [l5] at k3
  rw [l2] at k4
  have hB2 := hb1.trans hb2
  clear k1 k2 l2 l5 h2 hb1 hb2 hlt1
  go_wp2_with fail
  refine same_mono k3 ?_
  go_wp2_with fail
  refine k4.mono ?_
  rintro e w3 ⟨rfl, ⟨h3, hb3⟩⟩
  have k5 := next16 h3
  have k6 := said16 h3 2
  rw [l3] at k6
  have hB3 := hB2.trans hb3
  clear k3 k4 l3 h3 hB2 hb3
  go_wp2_with fail
  refine same_mono k5 ?_
  go_wp2_with fail
  refine k6.mono ?_
  rintro e w4 ⟨rfl, ⟨h4, hb4⟩⟩
  have k7 := mode16 h4
  have k8 := match16 h4
  have k9 := next16 h4
  have hB4 := hB3.trans hb4
  clear k5 k6 h4 hB3 hb4
  go_wp2_with fail
  refine same_mono k7 ?_
  go_wp2_with fail
  refine same_mono k8 ?_
  go_wp2_with fail
  refine same_mono k9 ?_
  go_wp2
  go_ret
  exact ⟨rfl, hB4⟩

structure Act16 where
  k : Int
  n : Int
  m : Int
def noA16 : Act16 := ⟨0, 0, 0⟩
def Act16.arr (x : Act16) : Array Value := #[.int .i64 x.k, .int .i64 x.n, .int .i64 x.m]
def HasA16 (w : World) (v : Value) (xs : List Act16) : Prop :=
  ∃ p c, v = .slice p xs.length c ∧ xs.length ≤ c ∧ (p = none → c = 0) ∧
    (0 < xs.length → ∃ b o, p = some ⟨b, o, none⟩ ∧ b < w.heap.size ∧ ∀ i, i < xs.length → ∀ j, j < 3 → w.cell? ⟨b, o + i * 3 + j, none⟩ = (xs.getD i noA16).arr[j]?)
theorem HasA16.form {w : World} {v : Value} {xs : List Act16} (h : HasA16 w v xs) : ∃ p c, v = .slice p xs.length c ∧ xs.length ≤ c ∧ ∀ i, i < xs.length → ∃ b o, p = some ⟨b, o, none⟩ ∧ b < w.heap.size ∧ w.cell? ⟨b, o + i * 3, none⟩ = some (.int .i64 (xs.getD i noA16).k) ∧ w.cell? ⟨b, o + i * 3 + 1, none⟩ = some (.int .i64 (xs.getD i noA16).n) ∧ w.cell? ⟨b, o + i * 3 + 2, none⟩ = some (.int .i64 (xs.getD i noA16).m) := by
  obtain ⟨p, c, hv, hc, -, hx⟩ := h
  refine ⟨p, c, hv, hc, fun i hi => ?_⟩
  obtain ⟨b, o, hp, hl, hy⟩ := hx (by omega)
  exact ⟨b, o, hp, hl, hy i hi 0 (by decide), hy i hi 1 (by decide), hy i hi 2 (by decide)⟩
set_option maxRecDepth 100000 in
set_option maxHeartbeats 2000000 in
theorem progressRises_of (nx : Int) (v : Value) (xs : List Act16) (w : World) (hx : HasA16 w v xs) (hl : xs.length ≤ 140737488351232) :
    Calls Try.prog 3 #[.int .i64 nx, v] w fun e w' => e = .returned (.bool true) ∧ Below w.heap.size w w' := by
  obtain ⟨pp, cc, rfl, hcc, hat⟩ := hx.form
  clear hx
  have k0 := new16_any nx w
  by_cases hlen : 1000 < xs.length
  · have hln : (1000 : Int) < (xs.length : Int) := by omega
    go_enter Try.func3, Try.ntmps3
    go_wp2_with fail
    refine k0.mono ?_
    rintro e w1 ⟨rfl, h3, hb1, hlt1⟩
    have kl := lives16 w1
    have kn := next16 h3
    have hn1 : 1 ≤ (pnew16 nx).next := by have := h3.inv.up; have := h3.inv.m0; omega
    clear k0 hat
    go_wp2_with fail
    refine same_mono kn ?_
    go_wp2_with fail
    refine kl.mono ?_
    rintro e w3 ⟨rfl, hb3⟩
    go_wp2
    go_ret
    exact ⟨rfl, hb1.trans (hb3.mono hb1.size)⟩
  go_enter Try.func3, Try.ntmps3
  go_wp2_with fail
  refine k0.mono ?_
  rintro e w1 ⟨rfl, h3, hb1, hlt1⟩
  obtain ⟨b, hb⟩ : ∃ b, b = w.heap.size := ⟨_, rfl⟩
  have HB0 : Hid (b = w.heap.size) := hb
  rw [← hb] at h3 ⊢
  generalize pnew16 nx = p0 at *
  have kn := next16 h3
  have hn1 : 1 ≤ p0.next := by have := h3.inv.up; have := h3.inv.m0; omega
  have hn1' : ¬ p0.next < 1 := by omega
  clear k0 hlt1 hb
  go_wp2_with fail
  refine same_mono kn ?_
  go_wp2
  go_loopw [36] (fun s wr => ∃ (j : Nat) (p : PP), j ≤ xs.length ∧ s = .int .i64 j ∧ PAt wr b p ∧ Below w.heap.size w wr) (fun s _ => xs.length - (intOf s).toNat)
  case atStart => exact ⟨0, p0, by omega, rfl, h3, hb1⟩
  case round =>
    clear h3 hb1 kn hn1 hn1'
    obtain ⟨j, p, hj, rfl, hp, hbw⟩ := hrel
    by_cases hlt : j < xs.length
    · obtain ⟨b2, o, rfl, hbl, e0, e1, e2⟩ := hat j hlt
      generalize xs.getD j noA16 = x at *
      obtain ⟨k, n, m⟩ := x
      dsimp only at e0 e1 e2
      have c0 := (hbw.cell (p := ⟨b2, o + j * 3, none⟩) hbl).trans e0
      have c1 := (hbw.cell (p := ⟨b2, o + j * 3 + 1, none⟩) hbl).trans e1
      have c2 := (hbw.cell (p := ⟨b2, o + j * 3 + 2, none⟩) hbl).trans e2
      have hj1 : (j : Int) < (xs.length : Int) := by omega
      clear e0 e1 e2 hat hbl
      have hbA : Below wr.heap.size wr (wr.alloc (.cells #[.int .i64 k, .int .i64 n, .int .i64 m] 28)) := (Below.refl _ _).alloc (Nat.le_refl _) _
      have hpW := hp.below hbA
      have hxW : (wr.alloc (.cells #[.int .i64 k, .int .i64 n, .int .i64 m] 28)).heap[wr.heap.size]? = some (.cells #[.int .i64 k, .int .i64 n, .int .i64 m] 28 (0, 0)) := heap_alloc_new wr _
      have hBW := hbw.trans (hbA.mono hbw.size)
      have d0 : (wr.alloc (.cells #[.int .i64 k, .int .i64 n, .int .i64 m] 28)).cell? ⟨wr.heap.size, 0, none⟩ = some (.int .i64 k) := box_cell16 hxW 0
      have d1 : (wr.alloc (.cells #[.int .i64 k, .int .i64 n, .int .i64 m] 28)).cell? ⟨wr.heap.size, 1, none⟩ = some (.int .i64 n) := box_cell16 hxW 1
      have d2 : (wr.alloc (.cells #[.int .i64 k, .int .i64 n, .int .i64 m] 28)).cell? ⟨wr.heap.size, 2, none⟩ = some (.int .i64 m) := box_cell16 hxW 2
      have hlW := box_lt16 hxW
      have km := match16 hpW
      have HW : Hid (PAt (wr.alloc (.cells #[.int .i64 k, .int .i64 n, .int .i64 m] 28)) b p) := hpW
      clear hpW hxW hbA hp hbw
      go_wp2_with fail
      generalize wr.alloc (.cells #[.int .i64 k, .int .i64 n, .int .i64 m] 28) = W at *
      generalize wr.heap.size = g at *
      clear c0 c1 c2
      refine same_mono km ?_
      clear km
      by_cases hk0 : k = 0
      · subst hk0
        have ks := sent16 HW.out n
        have hmq := (HW.out.inv.sent n).2
        generalize p.sent n = q at *
        go_wp2_with fail
        refine ks.mono ?_
        rintro e w3 ⟨rfl, ⟨h4, hb3⟩⟩
        clear ks
        have hge : ¬ q.m < p.m := by omega
        have hup := h4.inv.up
        have hnl : ¬ q.next ≤ q.m := by omega
        have ka := match16 h4
        have kb := next16 h4
        have hB3 := hBW.trans (hb3.mono (by rw [HB0.out]; exact Nat.le_refl _))
        clear hup
        go_wp2_with fail
        refine same_mono ka ?_
        go_wp2_with fail
        refine same_mono kb ?_
        go_wp2_with fail
        refine same_mono ka ?_
        go_wp2
        go_roundw
        case rel => exact ⟨j + 1, q, by omega, by go_num, h4, hB3⟩
        case measure => simp only [intOf]; omega
      by_cases hk1 : k = 1
      · subst hk1
        have ks := said16 HW.out n
        have hmq := (HW.out.inv.said n).2
        generalize p.said n = rq at *
        obtain ⟨r, q⟩ := rq
        dsimp only at ks hmq
        obtain ⟨hmq, hr⟩ := hmq
        go_wp2_with fail
        refine ks.mono ?_
        rintro e w3 ⟨rfl, ⟨h4, hb3⟩⟩
        clear ks
        have hge : ¬ q.m < p.m := by omega
        have hup := h4.inv.up
        have hnl : ¬ q.next ≤ q.m := by omega
        have ka := match16 h4
        have kb := next16 h4
        have hB3 := hBW.trans (hb3.mono (by rw [HB0.out]; exact Nat.le_refl _))
        clear hup
        have hge2 : Hid (¬ q.m < p.m) := hge
        clear hge hmq
        by_cases hlt2 : p.m < q.m
        · rw [decide_eq_true hlt2] at hr
          subst hr
          have hge : ¬ q.m < p.m := by omega
          go_wp2_with fail
          refine same_mono ka ?_
          go_wp2_with fail
          refine same_mono ka ?_
          go_wp2_with fail
          refine same_mono kb ?_
          go_wp2_with fail
          refine same_mono ka ?_
          go_wp2
          go_roundw
          case rel => exact ⟨j + 1, q, by omega, by go_num, h4, hB3⟩
          case measure => simp only [intOf]; omega
        · rw [decide_eq_false hlt2] at hr
          subst hr
          have hge : ¬ q.m < p.m := by have := hge2.out; omega
          go_wp2_with fail
          refine same_mono ka ?_
          go_wp2_with fail
          refine same_mono ka ?_
          go_wp2_with fail
          refine same_mono kb ?_
          go_wp2_with fail
          refine same_mono ka ?_
          go_wp2
          go_roundw
          case rel => exact ⟨j + 1, q, by omega, by go_num, h4, hB3⟩
          case measure => simp only [intOf]; omega
      by_cases hk2 : k = 2
      · subst hk2
        have ks := refused16 HW.out n m
        have hmq := (HW.out.inv.refused n m).2
        generalize p.refused n m = rq at *
        obtain ⟨r, q⟩ := rq
        dsimp only at ks hmq
        obtain ⟨hmq, hr⟩ := hmq
        go_wp2_with fail
        refine ks.mono ?_
        rintro e w3 ⟨rfl, ⟨h4, hb3⟩⟩
        clear ks
        have hge : ¬ q.m < p.m := by omega
        have hup := h4.inv.up
        have hnl : ¬ q.next ≤ q.m := by omega
        have ka := match16 h4
        have kb := next16 h4
        have hB3 := hBW.trans (hb3.mono (by rw [HB0.out]; exact Nat.le_refl _))
        clear hup
        clear hmq
        cases r with
        | true =>
          have kc := mode16 h4
          rw [hr rfl] at kc
          clear hr
          go_wp2_with fail
          refine same_mono kc ?_
          go_wp2_with fail
          refine same_mono ka ?_
          go_wp2_with fail
          refine same_mono kb ?_
          go_wp2_with fail
          refine same_mono ka ?_
          go_wp2
          go_roundw
          case rel => exact ⟨j + 1, q, by omega, by go_num, h4, hB3⟩
          case measure => simp only [intOf]; omega
        | false =>
          clear hr
          go_wp2_with fail
          refine same_mono ka ?_
          go_wp2_with fail
          refine same_mono kb ?_
          go_wp2_with fail
          refine same_mono ka ?_
          go_wp2
          go_roundw
          case rel => exact ⟨j + 1, q, by omega, by go_num, h4, hB3⟩
          case measure => simp only [intOf]; omega
      by_cases hk3 : k = 3
      · subst hk3
        have ks := snap16 HW.out n
        have hmq := (HW.out.inv.snapped n).2
        generalize p.snapped n = q at *
        obtain ⟨hmy, hmq⟩ := hmq
        go_wp2_with fail
        refine ks.mono ?_
        rintro e w3 ⟨rfl, ⟨h4, hb3⟩⟩
        clear ks
        have hge : ¬ q.m < p.m := by omega
        have hup := h4.inv.up
        have hnl : ¬ q.next ≤ q.m := by omega
        have ka := match16 h4
        have kb := next16 h4
        have hB3 := hBW.trans (hb3.mono (by rw [HB0.out]; exact Nat.le_refl _))
        clear hup
        have kc := may16 h4
        rw [hmy] at kc
        clear hmq
        go_wp2_with fail
        refine same_mono kc ?_
        go_wp2_with fail
        refine same_mono ka ?_
        go_wp2_with fail
        refine same_mono kb ?_
        go_wp2_with fail
        refine same_mono ka ?_
        go_wp2
        go_roundw
        case rel => exact ⟨j + 1, q, by omega, by go_num, h4, hB3⟩
        case measure => simp only [intOf]; omega
      have e0 : (k == 0) = false := by rw [beq_eq_false_iff_ne]; assumption
      have e1 : (k == 1) = false := by rw [beq_eq_false_iff_ne]; assumption
      have e2 : (k == 2) = false := by rw [beq_eq_false_iff_ne]; assumption
      have e3 : (k == 3) = false := by rw [beq_eq_false_iff_ne]; assumption
      have ks := beat16 HW.out
      have hmq := HW.out.inv.beat.2
      generalize p.beat = q at *
      obtain ⟨hmq, hmy⟩ := hmq
      go_wp2_with fail
      refine ks.mono ?_
      rintro e w3 ⟨rfl, ⟨h4, hb3⟩⟩
      clear ks
      have hge : ¬ q.m < p.m := by omega
      have hup := h4.inv.up
      have hnl : ¬ q.next ≤ q.m := by omega
      have ka := match16 h4
      have kb := next16 h4
      have hB3 := hBW.trans (hb3.mono (by rw [HB0.out]; exact Nat.le_refl _))
      clear hup
      have kc := may16 h4
      rw [hmy] at kc
      clear hmq hmy
      go_wp2_with fail
      refine same_mono kc ?_
      go_wp2_with fail
      refine same_mono ka ?_
      go_wp2_with fail
      refine same_mono kb ?_
      go_wp2_with fail
      refine same_mono ka ?_
      go_wp2
      go_roundw
      case rel => exact ⟨j + 1, q, by omega, by go_num, h4, hB3⟩
      case measure => simp only [intOf]; omega
    · obtain rfl : j = xs.length := by omega
      have kl := lives16 wr
      go_wp2_with fail
      refine kl.mono ?_
      rintro e w3 ⟨rfl, hb3⟩
      go_wp2
      go_ret
      exact ⟨rfl, hbw.trans (hb3.mono hbw.size)⟩
theorem progressRises_row (nx : Int) (v : Value) (xs : List Act16) (w : World) (_ : -9223372036854775808 ≤ nx ∧ nx ≤ 9223372036854775807) (hx : HasA16 w v xs) (hl : xs.length ≤ 140737488351232) :
    Calls Try.prog 3 #[.int .i64 nx, v] w fun e w' => e = .returned (.bool true) ∧ Below w.heap.size w w' := progressRises_of nx v xs w hx hl
def HasU16 (w : World) (v : Value) (xs : List Int) : Prop :=
  ∃ p c, v = .slice p xs.length c ∧ xs.length ≤ c ∧ (p = none → c = 0) ∧
    (0 < xs.length → ∃ b o, p = some ⟨b, o, none⟩ ∧ b < w.heap.size ∧ ∀ i, i < xs.length → w.cell? ⟨b, o + i, none⟩ = some (.int .u64 (xs.getD i 0)))
end Go.Proofs.Ytgjjbnnojmighaa
