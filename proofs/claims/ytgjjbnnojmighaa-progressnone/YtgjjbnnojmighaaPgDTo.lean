import Derived.Test.YtgjjbnnojmighaaPgA
import Derived.Test.YtgjjbnnojmighaaRlTo
namespace Go.Proofs.Ytgjjbnnojmighaa
open Go.RowKit
theorem Ob16.drewN {w : World} {b : Nat} {p : PP} (h : Ob16 w b p) (m : Nat) : Ob16 (w.drewN m) b p := box_below16 h (below_drewN16 (Below.refl _ _) m)
set_option maxRecDepth 100000 in
set_option maxHeartbeats 1000000 in
theorem mayF16 (k : Int) (w : World) : Calls Try.prog 21 #[.int .i64 k] w fun e w' => e = .returned (.func (.func (if k = 1 then 22 else if k = 2 then 23 else 24)) #[] #[]) ∧ w' = w := by
  by_cases h1 : k = 1
  · subst h1
    go_enter Try.func21, Try.ntmps21
    go_wp2
    go_ret
    exact ⟨rfl, rfl⟩
  · by_cases h2 : k = 2
    · subst h2
      go_enter Try.func21, Try.ntmps21
      go_wp2
      go_ret
      exact ⟨rfl, rfl⟩
    · have e1 : (k == 1) = false := by rw [beq_eq_false_iff_ne]; exact h1
      have e2 : (k == 2) = false := by rw [beq_eq_false_iff_ne]; exact h2
      rw [if_neg h1, if_neg h2]
      go_enter Try.func21, Try.ntmps21
      go_wp2
      go_ret
      exact ⟨rfl, rfl⟩
theorem counted16q (n : Int) (w : World) : Calls Try.prog 18 #[.int .i64 n] w fun e w' => e = .returned (.int .i64 (cnt16 n)) ∧ ∃ m, w' = w.drewN m := (counted16 n w).mono fun _ _ h => ⟨h.1, 0, h.2⟩
section
variable {w w' : World} {b : Nat} {p : PP}
set_option maxRecDepth 100000 in
set_option maxHeartbeats 1000000 in
theorem sent16 (h : PAt w b p) (n : Int) : Calls Try.prog 11 #[.pointer (some ⟨b, 0, none⟩), .int .i64 n] w fun e w' => e = .returned (.tuple #[]) ∧ PTurn w b (p.sent n) w' := by
  have km := made16 h
  obtain ⟨c0, c1, c2, c3, c4⟩ := h.cells
  have hlt := h.lt
  have f0 := h.frozen 0
  have f4 := h.frozen 4
  have HI : Hid (p.sent n).Inv := (h.inv.sent n).1
  have HB : Hid p.Inv := h.inv
  have HH : Hid (Ob16 w b p) := h.obj
  have hm := h.inv.mode
  clear h
  rcases hm with hm | hm | hm
  · have HF : Hid (p.sent n = ⟨p.next, p.m, p.mode, p.snap, true⟩) := if_pos hm
    rw [hm] at c2
    clear hm
    go_enter Try.func11, Try.ntmps11
    go_wp2_with fail
    refine same_mono km ?_
    go_wp2
    go_end0
    refine ⟨rfl, ⟨?_, HI.out⟩, below_set16 w (Nat.le_refl b) _ _⟩
    rw [HF.out]
    exact HH.out.busy true
  · have HF : Hid (p.sent n = ⟨max p.next (min (p.next + cnt16 n) 1125899906842624), p.m, p.mode, p.snap, p.busy⟩) := (if_neg (by rw [hm]; decide)).trans (if_pos hm)
    rw [hm] at c2
    clear hm
    have hq : ∀ m, Calls Try.prog 18 #[.int .i64 n] (w.drewN m) fun e w' => e = .returned (.int .i64 (cnt16 n)) ∧ ∃ m', w' = (w.drewN m).drewN m' := fun m => counted16q n _
    have hc := cnt16_in n
    have hn := HB.out.n1
    have hn0 : 0 < p.next := by have := HB.out.up; have := HB.out.m0; omega
    have HX : Hid ((if p.next < if 1125899906842624 < p.next + cnt16 n then 1125899906842624 else p.next + cnt16 n then if 1125899906842624 < p.next + cnt16 n then 1125899906842624 else p.next + cnt16 n else p.next) = max p.next (min (p.next + cnt16 n) 1125899906842624)) := by
      rw [Hid]
      repeat' split
      all_goals omega
    have hw : IntKind.i64.wrap (p.next + cnt16 n) = p.next + cnt16 n := by rw [IntKind.wrap_i64]; omega
    go_enter Try.func11, Try.ntmps11
    go_wp2_with fail
    refine same_mono km ?_
    go_wp2_with fail
    refine wp_last (by kernel_rfl) (by kernel_rfl) ?_
    dsimp only [initL, lastL]
    repeat (go_big_quiet_step ((go_at_call 18; exact Calls.quiet_of (hq _))))
    refine wpQuiet_nil ?_
    rintro _ ⟨nr, rfl⟩
    rw [HX.out]
    have h1 := HH.out.drewN nr
    have HN := h1.next (max p.next (min (p.next + cnt16 n) 1125899906842624))
    have f0' := h1.frozen 0
    have c0' : (w.drewN nr).cell? ⟨b, 0, none⟩ = some (.int .i64 p.next) := h1.cell 0
    have hlt' := h1.lt
    have HT : Hid (PTurn w b (p.sent n) ((w.drewN nr).setCell ⟨b, 0, none⟩ (.int .i64 (max p.next (min (p.next + cnt16 n) 1125899906842624))))) := ⟨⟨by rw [HF.out]; exact HN, HI.out⟩, (below_drewN16 (Below.refl _ _) nr).trans (below_set16 _ (Nat.le_refl b) _ _)⟩
    clear h1 HN
    generalize max p.next (min (p.next + cnt16 n) 1125899906842624) = X at *
    generalize w.drewN nr = V at *
    generalize (if 1125899906842624 < p.next + cnt16 n then (1125899906842624 : Int) else p.next + cnt16 n) = Y
    gi_wp2
    go_end0
    exact ⟨rfl, HT.out⟩
  · have HF : Hid (p.sent n = p) := (if_neg (by rw [hm]; decide)).trans (if_neg (by rw [hm]; decide))
    rw [hm] at c2
    clear hm
    go_enter Try.func11, Try.ntmps11
    go_wp2_with fail
    refine same_mono km ?_
    go_wp2
    go_end0
    rw [HF.out]
    exact ⟨rfl, ⟨HH.out, HB.out⟩, Below.refl _ _⟩
set_option maxRecDepth 100000 in
set_option maxHeartbeats 1000000 in
theorem one16 (h : PAt w b p) : Calls Try.prog 22 #[.pointer (some ⟨b, 0, none⟩)] w fun e w' => e = .returned (.bool (!p.busy)) ∧ w' = w := by
  obtain ⟨c0, c1, c2, c3, c4⟩ := h.cells
  have hlt := h.lt
  clear h
  go_enter Try.func22, Try.ntmps22
  go_wp2
  go_ret
  exact ⟨rfl, rfl⟩
set_option maxRecDepth 100000 in
theorem all16 (v : Value) : Calls Try.prog 23 #[v] w fun e w' => e = .returned (.bool true) ∧ w' = w := by
  go_enter Try.func23, Try.ntmps23
  go_wp2
  go_ret
  exact ⟨rfl, rfl⟩
set_option maxRecDepth 100000 in
theorem nothing16 (v : Value) : Calls Try.prog 24 #[v] w fun e w' => e = .returned (.bool false) ∧ w' = w := by
  go_enter Try.func24, Try.ntmps24
  go_wp2
  go_ret
  exact ⟨rfl, rfl⟩
set_option maxRecDepth 100000 in
set_option maxHeartbeats 1000000 in
theorem may16 (h : PAt w b p) : Calls Try.prog 16 #[.pointer (some ⟨b, 0, none⟩)] w fun e w' => e = .returned (.bool p.may) ∧ w' = w := by
  have km := made16 h
  obtain ⟨c0, c1, c2, c3, c4⟩ := h.cells
  have hlt := h.lt
  have hm := h.inv.mode
  have k1 := one16 h
  have HF : Hid (p.may = (decide (p.mode = 2) || decide (p.mode = 1) && !p.busy)) := rfl
  clear h
  generalize p.may = r at *
  rcases hm with hm | hm | hm
  · rw [hm] at c2 HF
    clear hm
    have kf := mayF16 1 w
    rw [if_pos rfl] at kf
    go_enter Try.func16, Try.ntmps16
    go_wp2_with fail
    refine same_mono km ?_
    go_wp2_with fail
    refine same_mono kf ?_
    go_wp2_with fail
    refine same_mono k1 ?_
    go_wp2
    go_ret
    exact ⟨by rw [HF.out]; simp, rfl⟩
  · rw [hm] at c2 HF
    clear hm
    have kf := mayF16 2 w
    rw [if_neg (by decide), if_pos rfl] at kf
    go_enter Try.func16, Try.ntmps16
    go_wp2_with fail
    refine same_mono km ?_
    go_wp2_with fail
    refine same_mono kf ?_
    go_wp2_with fail
    refine same_mono (all16 _) ?_
    go_wp2
    go_ret
    exact ⟨by rw [HF.out]; simp, rfl⟩
  · rw [hm] at c2 HF
    clear hm
    have kf := mayF16 3 w
    rw [if_neg (by decide), if_neg (by decide)] at kf
    go_enter Try.func16, Try.ntmps16
    go_wp2_with fail
    refine same_mono km ?_
    go_wp2_with fail
    refine same_mono kf ?_
    go_wp2_with fail
    refine same_mono (nothing16 _) ?_
    go_wp2
    go_ret
    exact ⟨by rw [HF.out]; simp, rfl⟩
end
section
variable {w w' : World} {b : Nat} {p : PP}
set_option maxRecDepth 100000 in
set_option maxHeartbeats 1000000 in
theorem said16 (h : PAt w b p) (n : Int) : Calls Try.prog 12 #[.pointer (some ⟨b, 0, none⟩), .int .i64 n] w fun e w' => e = .returned (.bool (p.said n).1) ∧ PTurn w b (p.said n).2 w' := by
  have km := made16 h
  have km0 := km
  have kc := counted16 n w
  have hc := cnt16_in n
  obtain ⟨c0, c1, c2, c3, c4⟩ := h.cells
  have hlt := h.lt
  have HI : Hid (p.said n).2.Inv := (h.inv.said n).1
  have HB : Hid p.Inv := h.inv
  have HH : Hid (Ob16 w b p) := h.obj
  have hn := h.inv.n1
  have hn0 : 0 < p.next := by have := h.inv.up; have := h.inv.m0; omega
  have hm1 : 0 ≤ p.m ∧ p.m ≤ 1125899906842624 := ⟨h.inv.m0, h.inv.m1⟩
  clear h
  by_cases h1 : cnt16 n < p.m
  · have HF : Hid (p.said n = (false, p)) := if_pos h1
    rw [HF.out]
    generalize cnt16 n = c at *
    go_enter Try.func12, Try.ntmps12
    go_wp2_with fail
    refine same_mono kc ?_
    go_wp2_with fail
    refine same_mono km ?_
    go_wp2
    go_ret
    exact ⟨rfl, ⟨HH.out, HB.out⟩, Below.refl _ _⟩
  · have hw : IntKind.i64.wrap (cnt16 n + 1) = cnt16 n + 1 := by rw [IntKind.wrap_i64]; omega
    have HF : Hid (p.said n = (decide (p.m < cnt16 n), if p.mode = 1 ∨ p.mode = 3 ∧ p.snap ≤ cnt16 n then (p.up16 (cnt16 n)).turn 2 (cnt16 n + 1) else p.up16 (cnt16 n))) := if_neg h1
    rw [HF.out] at HI ⊢
    have f0 := HH.out.frozen 0
    have f1 := HH.out.frozen 1
    have hmo := HB.out.mode
    generalize hC : cnt16 n = c at *
    clear hC
    rcases Int.lt_or_le p.next (c + 1) with hx | hx
    · have hX : max p.next (c + 1) = c + 1 := by omega
      have h2 : Ob16 ((w.setCell ⟨b, 1, none⟩ (.int .i64 c)).setCell ⟨b, 0, none⟩ (.int .i64 (c + 1))) b (p.up16 c) := by
        have := (HH.out.m c).next (c + 1)
        unfold PP.up16
        rw [hX]
        exact this
      have hb2 : Below b w ((w.setCell ⟨b, 1, none⟩ (.int .i64 c)).setCell ⟨b, 0, none⟩ (.int .i64 (c + 1))) := (below_set16 w (Nat.le_refl b) _ _).trans (below_set16 _ (Nat.le_refl b) _ _)
      clear hX
      obtain ⟨d0, d1, d2, d3, d4⟩ := h2.cells
      unfold PP.up16 at d2 d3
      dsimp only at d2 d3
      have hl2 := h2.lt
      have kt := turn16 h2 2 (c + 1)
      have HO : Hid (Ob16 ((w.setCell ⟨b, 1, none⟩ (.int .i64 c)).setCell ⟨b, 0, none⟩ (.int .i64 (c + 1))) b (p.up16 c)) := h2
      clear d0 d1 d4 h2 HF HH HB km
      have km2 := km0
      generalize hW : (w.setCell ⟨b, 1, none⟩ (.int .i64 c)).setCell ⟨b, 0, none⟩ (.int .i64 (c + 1)) = W at *
      rcases hmo with hm | hm | hm
      · rw [hm] at d2
        rw [if_pos (.inl hm)] at HI ⊢
        clear hm
        go_enter Try.func12, Try.ntmps12
        go_wp2_with fail
        refine same_mono kc ?_
        go_wp2_with fail
        refine same_mono km2 ?_
        go_wp2_with fail
        refine kt.mono ?_
        rintro e w1 ⟨rfl, h1', hb1⟩
        go_wp2
        go_ret
        exact ⟨rfl, ⟨h1', HI.out⟩, hb2.trans hb1⟩
      · rw [hm] at d2
        rw [if_neg (by rw [hm]; rintro (h | ⟨h, -⟩) <;> exact absurd h (by decide))] at HI ⊢
        clear hm
        go_enter Try.func12, Try.ntmps12
        go_wp2_with fail
        refine same_mono kc ?_
        go_wp2_with fail
        refine same_mono km2 ?_
        go_wp2
        go_ret
        exact ⟨rfl, ⟨HO.out, HI.out⟩, hb2⟩
      · rw [hm] at d2
        by_cases hs : p.snap ≤ c
        · rw [if_pos (.inr ⟨hm, hs⟩)] at HI ⊢
          clear hm
          go_enter Try.func12, Try.ntmps12
          go_wp2_with fail
          refine same_mono kc ?_
          go_wp2_with fail
          refine same_mono km2 ?_
          go_wp2_with fail
          refine kt.mono ?_
          rintro e w1 ⟨rfl, h1', hb1⟩
          go_wp2
          go_ret
          exact ⟨rfl, ⟨h1', HI.out⟩, hb2.trans hb1⟩
        · rw [if_neg (by rw [hm]; rintro (h | ⟨-, h⟩); exact absurd h (by decide); exact hs h)] at HI ⊢
          clear hm
          go_enter Try.func12, Try.ntmps12
          go_wp2_with fail
          refine same_mono kc ?_
          go_wp2_with fail
          refine same_mono km2 ?_
          go_wp2
          go_ret
          exact ⟨rfl, ⟨HO.out, HI.out⟩, hb2⟩
    · have hX : max p.next (c + 1) = p.next := by omega
      have h2 : Ob16 ((w.setCell ⟨b, 1, none⟩ (.int .i64 c)).setCell ⟨b, 0, none⟩ (.int .i64 (p.next))) b (p.up16 c) := by
        have := (HH.out.m c).next (p.next)
        unfold PP.up16
        rw [hX]
        exact this
      have hb2 : Below b w ((w.setCell ⟨b, 1, none⟩ (.int .i64 c)).setCell ⟨b, 0, none⟩ (.int .i64 (p.next))) := (below_set16 w (Nat.le_refl b) _ _).trans (below_set16 _ (Nat.le_refl b) _ _)
      clear hX
      obtain ⟨d0, d1, d2, d3, d4⟩ := h2.cells
      unfold PP.up16 at d2 d3
      dsimp only at d2 d3
      have hl2 := h2.lt
      have kt := turn16 h2 2 (c + 1)
      have HO : Hid (Ob16 ((w.setCell ⟨b, 1, none⟩ (.int .i64 c)).setCell ⟨b, 0, none⟩ (.int .i64 (p.next))) b (p.up16 c)) := h2
      clear d0 d1 d4 h2 HF HH HB km
      have km2 := km0
      generalize hW : (w.setCell ⟨b, 1, none⟩ (.int .i64 c)).setCell ⟨b, 0, none⟩ (.int .i64 (p.next)) = W at *
      rcases hmo with hm | hm | hm
      · rw [hm] at d2
        rw [if_pos (.inl hm)] at HI ⊢
        clear hm
        go_enter Try.func12, Try.ntmps12
        go_wp2_with fail
        refine same_mono kc ?_
        go_wp2_with fail
        refine same_mono km2 ?_
        go_wp2_with fail
        refine kt.mono ?_
        rintro e w1 ⟨rfl, h1', hb1⟩
        go_wp2
        go_ret
        exact ⟨rfl, ⟨h1', HI.out⟩, hb2.trans hb1⟩
      · rw [hm] at d2
        rw [if_neg (by rw [hm]; rintro (h | ⟨h, -⟩) <;> exact absurd h (by decide))] at HI ⊢
        clear hm
        go_enter Try.func12, Try.ntmps12
        go_wp2_with fail
        refine same_mono kc ?_
        go_wp2_with fail
        refine same_mono km2 ?_
        go_wp2
        go_ret
        exact ⟨rfl, ⟨HO.out, HI.out⟩, hb2⟩
      · rw [hm] at d2
        by_cases hs : p.snap ≤ c
        · rw [if_pos (.inr ⟨hm, hs⟩)] at HI ⊢
          clear hm
          go_enter Try.func12, Try.ntmps12
          go_wp2_with fail
          refine same_mono kc ?_
          go_wp2_with fail
          refine same_mono km2 ?_
          go_wp2_with fail
          refine kt.mono ?_
          rintro e w1 ⟨rfl, h1', hb1⟩
          go_wp2
          go_ret
          exact ⟨rfl, ⟨h1', HI.out⟩, hb2.trans hb1⟩
        · rw [if_neg (by rw [hm]; rintro (h | ⟨-, h⟩); exact absurd h (by decide); exact hs h)] at HI ⊢
          clear hm
          go_enter Try.func12, Try.ntmps12
          go_wp2_with fail
          refine same_mono kc ?_
          go_wp2_with fail
          refine same_mono km2 ?_
          go_wp2
          go_ret
          exact ⟨rfl, ⟨HO.out, HI.out⟩, hb2⟩
set_option maxRecDepth 100000 in
set_option maxHeartbeats 1000000 in
theorem refused16 (h : PAt w b p) (i n : Int) : Calls Try.prog 13 #[.pointer (some ⟨b, 0, none⟩), .int .i64 i, .int .i64 n] w fun e w' => e = .returned (.bool (p.refused i n).1) ∧ PTurn w b (p.refused i n).2 w' := by
  have km := made16 h
  have kc := counted16 i w
  have kd := counted16 n w
  have hc := cnt16_in i
  have hd := cnt16_in n
  obtain ⟨c0, c1, c2, c3, c4⟩ := h.cells
  have hlt := h.lt
  have HI : Hid (p.refused i n).2.Inv := (h.inv.refused i n).1
  have HB : Hid p.Inv := h.inv
  have HH : Hid (Ob16 w b p) := h.obj
  have hn := h.inv.n1
  have hn0 : 0 < p.next := by have := h.inv.up; have := h.inv.m0; omega
  have hm1 : 0 ≤ p.m ∧ p.m ≤ 1125899906842624 := ⟨h.inv.m0, h.inv.m1⟩
  have hw : IntKind.i64.wrap (cnt16 n + 1) = cnt16 n + 1 := by rw [IntKind.wrap_i64]; omega
  have hw2 : IntKind.i64.wrap (p.m + 1) = p.m + 1 := by rw [IntKind.wrap_i64]; omega
  have hw3 : IntKind.i64.wrap (p.next - 1) = p.next - 1 := by rw [IntKind.wrap_i64]; omega
  clear h
  by_cases h1 : cnt16 i ≤ p.m
  · have HF : Hid (p.refused i n = (false, p)) := if_pos (.inl h1)
    rw [HF.out]
    go_enter Try.func13, Try.ntmps13
    go_wp2_with fail
    refine same_mono kc ?_
    go_wp2_with fail
    refine same_mono kd ?_
    go_wp2_with fail
    refine same_mono km ?_
    go_wp2
    go_ret
    exact ⟨rfl, ⟨HH.out, HB.out⟩, Below.refl _ _⟩
  have enter : True := trivial
  by_cases h2 : p.mode ≠ 2 ∧ cnt16 i ≠ p.next - 1
  · have HF : Hid (p.refused i n = (false, p)) := if_pos (.inr h2)
    rw [HF.out]
    have h3 : (p.mode != 2) = true := bne_iff_ne.2 h2.1
    have h4 : (cnt16 i != p.next - 1) = true := bne_iff_ne.2 h2.2
    clear h2
    generalize cnt16 i = c at *
    go_enter Try.func13, Try.ntmps13
    go_wp2_with fail
    refine same_mono kc ?_
    go_wp2_with fail
    refine same_mono kd ?_
    go_wp2_with fail
    refine same_mono km ?_
    go_wp2
    go_ret
    exact ⟨rfl, ⟨HH.out, HB.out⟩, Below.refl _ _⟩
  have HF : Hid (p.refused i n = (true, p.turn 1 (p.refusedN i n))) := if_neg (by rintro (h | h); exact h1 h; exact h2 h)
  have HN : Hid (p.refusedN i n = max (min (cnt16 i) (cnt16 n + 1)) (p.m + 1)) := rfl
  rw [HF.out] at HI ⊢
  have kt := fun X => turn16 HH.out 1 X
  clear enter
  generalize p.refusedN i n = N at *
  have hmo := HB.out.mode
  have hne : p.mode = 2 ∨ p.mode ≠ 2 ∧ cnt16 i = p.next - 1 := by
    by_cases h : p.mode = 2
    · exact .inl h
    · exact .inr ⟨h, by by_cases h4 : cnt16 i = p.next - 1; exact h4; exact absurd ⟨h, h4⟩ h2⟩
  generalize cnt16 i = c at *
  generalize cnt16 n = d at *
  clear h2
  rcases hne with hm | ⟨hm, he⟩
  · rw [hm] at c2
    clear hm hmo
    go_enter Try.func13, Try.ntmps13
    go_wp2_with fail
    refine same_mono kc ?_
    go_wp2_with fail
    refine same_mono kd ?_
    go_wp2_with fail
    refine same_mono km ?_
    go_wp2_with fail
    all_goals (
      refine (kt _).mono ?_
      rintro e w1 ⟨rfl, h1', hb1⟩
      go_wp2
      go_ret
      refine ⟨rfl, ⟨?_, HI.out⟩, hb1⟩
      rw [show N = _ from HN.out]
      refine cast ?_ h1'
      congr 2
      omega)
  · have hmm : (p.mode == 2) = false := by rw [beq_eq_false_iff_ne]; exact hm
    have HE : Hid (c = p.next - 1) := he
    have hee : (c != p.next - 1) = false := by rw [he]; simp
    clear hm hmo he
    go_enter Try.func13, Try.ntmps13
    go_wp2_with fail
    refine same_mono kc ?_
    go_wp2_with fail
    refine same_mono kd ?_
    go_wp2_with fail
    refine same_mono km ?_
    go_wp2_with fail
    all_goals (
      refine (kt _).mono ?_
      rintro e w1 ⟨rfl, h1', hb1⟩
      go_wp2
      go_ret
      refine ⟨rfl, ⟨?_, HI.out⟩, hb1⟩
      rw [show N = _ from HN.out]
      refine cast ?_ h1'
      congr 2
      omega)
end
theorem live16_0 : pnew16 5 = ⟨5, 0, 1, 0, false⟩ := by kernel_rfl
theorem live16_1 : (PP.mk 5 0 1 0 false).sent 1 = ⟨5, 0, 1, 0, true⟩ := by kernel_rfl
theorem live16_2 : (PP.mk 5 0 1 0 true).refused 4 2 = (true, ⟨3, 0, 1, 0, false⟩) := by kernel_rfl
theorem live16_3 : (PP.mk 3 0 1 0 false).said 2 = (true, ⟨3, 2, 2, 0, false⟩) := by kernel_rfl
theorem live16_4 : (PP.mk 5 0 1 0 false).may = true := by kernel_rfl
theorem live16_5 : (PP.mk 5 0 1 0 true).may = false := by kernel_rfl

set_option maxRecDepth 100000 in
set_option maxHeartbeats 2000000 in
theorem lives16 (w : World) : Calls Try.prog 9 #[] w fun e w' => e = .returned (.bool true) ∧ Below w.heap.size w w' := by
  have l1 := live16_1
  have l2 := live16_2
  have l3 := live16_3
  have l4 := live16_4
  have l5 := live16_5
  have k0 := new16_any 5 w
  rw [live16_0] at k0
  go_enter Try.func9, Try.ntmps9
  go_wp2_with fail
  refine k0.mono ?_
  rintro e w1 ⟨rfl, h1, hb1, hlt1⟩
  have k1 := may16 h1
  have k2 := sent16 h1 1
  rw [l4] at k1
  rw [l1] at k2
  clear k0 l1 l4 h1
  go_wp2_with fail
  refine same_mono k1 ?_
  go_wp2_with fail
  refine k2.mono ?_
  rintro e w2 ⟨rfl, ⟨h2, hb2⟩⟩
  have k3 := may16 h2
  have k4 := refused16 h2 4 2
  rw [l5] at k3
  rw [l2] at k4
  have hB2 := hb1.trans hb2
  clear k1 k2 l2 l5 h2 hb1 hb2 hlt1
  go_wp2_with fail
  refine same_mono k3 ?_
  go_wp2_with fail
  refine k4.mono ?_
  rintro e w3 ⟨rfl, ⟨h3, hb3⟩⟩
  have k5 := next16 h3
  have k6 := said16 h3 2
  rw [l3] at k6
  have hB3 := hB2.trans hb3
  clear k3 k4 l3 h3 hB2 hb3
  go_wp2_with fail
  refine same_mono k5 ?_
  go_wp2_with fail
  refine k6.mono ?_
  rintro e w4 ⟨rfl, ⟨h4, hb4⟩⟩
  have k7 := mode16 h4
  have k8 := match16 h4
  have k9 := next16 h4
  have hB4 := hB3.trans hb4
  clear k5 k6 h4 hB3 hb4
  go_wp2_with fail
  refine same_mono k7 ?_
  go_wp2_with fail
  refine same_mono k8 ?_
  go_wp2_with fail
  refine same_mono k9 ?_
  go_wp2
  go_ret
  exact ⟨rfl, hB4⟩

end Go.Proofs.Ytgjjbnnojmighaa
