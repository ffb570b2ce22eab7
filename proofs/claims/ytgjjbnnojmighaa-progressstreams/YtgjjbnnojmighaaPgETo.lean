import Derived.Test.YtgjjbnnojmighaaPgA
import Derived.Test.YtgjjbnnojmighaaRlTo
namespace Go.Proofs.Ytgjjbnnojmighaa
open Go.RowKit
theorem Ob16.drewN {w : World} {b : Nat} {p : PP} (h : Ob16 w b p) (m : Nat) : Ob16 (w.drewN m) b p := box_below16 h (below_drewN16 (Below.refl _ _) m)
set_option maxRecDepth 100000 in
set_option maxHeartbeats 1000000 in
theorem mayF16 (k : Int) (w : World) : Calls Try.prog 21 #[.int .i64 k] w fun e w' => e = .returned (.func (.func (if k = 1 then 22 else if k = 2 then 23 else 24)) #[] #[]) ∧ w' = w := by
  by_cases h1 : k = 1
  · subst h1
    go_enter Try.func21, Try.ntmps21
    go_wp2
    go_ret
    exact ⟨rfl, rfl⟩
  · by_cases h2 : k = 2
    · subst h2
      go_enter Try.func21, Try.ntmps21
      go_wp2
      go_ret
      exact ⟨rfl, rfl⟩
    · have e1 : (k == 1) = false := by rw [beq_eq_false_iff_ne]; exact h1
      have e2 : (k == 2) = false := by rw [beq_eq_false_iff_ne]; exact h2
      rw [if_neg h1, if_neg h2]
      go_enter Try.func21, Try.ntmps21
      go_wp2
      go_ret
      exact ⟨rfl, rfl⟩
theorem counted16q (n : Int) (w : World) : Calls Try.prog 18 #[.int .i64 n] w fun e w' => e = .returned (.int .i64 (cnt16 n)) ∧ ∃ m, w' = w.drewN m := (counted16 n w).mono fun _ _ h => ⟨h.1, 0, h.2⟩
section
variable {w w' : World} {b : Nat} {p : PP}
set_option maxRecDepth 100000 in
set_option maxHeartbeats 1000000 in
theorem sent16 (h : PAt w b p) (n : Int) : Calls Try.prog 11 #[.pointer (some ⟨b, 0, none⟩), .int .i64 n] w fun e w' => e = .returned (.tuple #[]) ∧ PTurn w b (p.sent n) w' := by
  have km := made16 h
  obtain ⟨c0, c1, c2, c3, c4⟩ := h.cells
  have hlt := h.lt
  have f0 := h.frozen 0
  have f4 := h.frozen 4
  have HI : Hid (p.sent n).Inv := (h.inv.sent n).1
  have HB : Hid p.Inv := h.inv
  have HH : Hid (Ob16 w b p) := h.obj
  have hm := h.inv.mode
  clear h
  rcases hm with hm | hm | hm
  · have HF : Hid (p.sent n = ⟨p.next, p.m, p.mode, p.snap, true⟩) := if_pos hm
    rw [hm] at c2
    clear hm
    go_enter Try.func11, Try.ntmps11
    go_wp2_with fail
    refine same_mono km ?_
    go_wp2
    go_end0
    refine ⟨rfl, ⟨?_, HI.out⟩, below_set16 w (Nat.le_refl b) _ _⟩
    rw [HF.out]
    exact HH.out.busy true
  · have HF : Hid (p.sent n = ⟨max p.next (min (p.next + cnt16 n) 1125899906842624), p.m, p.mode, p.snap, p.busy⟩) := (if_neg (by rw [hm]; decide)).trans (if_pos hm)
    rw [hm] at c2
    clear hm
    have hq : ∀ m, Calls Try.prog 18 #[.int .i64 n] (w.drewN m) fun e w' => e = .returned (.int .i64 (cnt16 n)) ∧ ∃ m', w' = (w.drewN m).drewN m' := fun m => counted16q n _
    have hc := cnt16_in n
    have hn := HB.out.n1
    have hn0 : 0 < p.next := by have := HB.out.up; have := HB.out.m0; omega
    have HX : Hid ((if p.next < if 1125899906842624 < p.next + cnt16 n then 1125899906842624 else p.next + cnt16 n then if 1125899906842624 < p.next + cnt16 n then 1125899906842624 else p.next + cnt16 n else p.next) = max p.next (min (p.next + cnt16 n) 1125899906842624)) := by
      rw [Hid]
      repeat' split
      all_goals omega
    have hw : IntKind.i64.wrap (p.next + cnt16 n) = p.next + cnt16 n := by rw [IntKind.wrap_i64]; omega
    go_enter Try.func11, Try.ntmps11
    go_wp2_with fail
    refine same_mono km ?_
    go_wp2_with fail
    refine wp_last (by kernel_rfl) (by kernel_rfl) ?_
    dsimp only [initL, lastL]
    repeat (go_big_quiet_step ((go_at_call 18; exact Calls.quiet_of (hq _))))
    refine wpQuiet_nil ?_
    rintro _ ⟨nr, rfl⟩
    rw [HX.out]
    have h1 := HH.out.drewN nr
    have HN := h1.next (max p.next (min (p.next + cnt16 n) 1125899906842624))
    have f0' := h1.frozen 0
    have c0' : (w.drewN nr).cell? ⟨b, 0, none⟩ = some (.int .i64 p.next) := h1.cell 0
    have hlt' := h1.lt
    have HT : Hid (PTurn w b (p.sent n) ((w.drewN nr).setCell ⟨b, 0, none⟩ (.int .i64 (max p.next (min (p.next + cnt16 n) 1125899906842624))))) := ⟨⟨by rw [HF.out]; exact HN, HI.out⟩, (below_drewN16 (Below.refl _ _) nr).trans (below_set16 _ (Nat.le_refl b) _ _)⟩
    clear h1 HN
    generalize max p.next (min (p.next + cnt16 n) 1125899906842624) = X at *
    generalize w.drewN nr = V at *
    generalize (if 1125899906842624 < p.next + cnt16 n then (1125899906842624 : Int) else p.next + cnt16 n) = Y
    gi_wp2
    go_end0
    exact ⟨rfl, HT.out⟩
  · have HF : Hid (p.sent n = p) := (if_neg (by rw [hm]; decide)).trans (if_neg (by rw [hm]; decide))
    rw [hm] at c2
    clear hm
    go_enter Try.func11, Try.ntmps11
    go_wp2_with fail
    refine same_mono km ?_
    go_wp2
    go_end0
    rw [HF.out]
    exact ⟨rfl, ⟨HH.out, HB.out⟩, Below.refl _ _⟩
set_option maxRecDepth 100000 in
set_option maxHeartbeats 1000000 in
theorem one16 (h : PAt w b p) : Calls Try.prog 22 #[.pointer (some ⟨b, 0, none⟩)] w fun e w' => e = .returned (.bool (!p.busy)) ∧ w' = w := by
  obtain ⟨c0, c1, c2, c3, c4⟩ := h.cells
  have hlt := h.lt
  clear h
  go_enter Try.func22, Try.ntmps22
  go_wp2
  go_ret
  exact ⟨rfl, rfl⟩
set_option maxRecDepth 100000 in
theorem all16 (v : Value) : Calls Try.prog 23 #[v] w fun e w' => e = .returned (.bool true) ∧ w' = w := by
  go_enter Try.func23, Try.ntmps23
  go_wp2
  go_ret
  exact ⟨rfl, rfl⟩
set_option maxRecDepth 100000 in
theorem nothing16 (v : Value) : Calls Try.prog 24 #[v] w fun e w' => e = .returned (.bool false) ∧ w' = w := by
  go_enter Try.func24, Try.ntmps24
  go_wp2
  go_ret
  exact ⟨rfl, rfl⟩
set_option maxRecDepth 100000 in
set_option maxHeartbeats 1000000 in
theorem may16 (h : PAt w b p) : Calls Try.prog 16 #[.pointer (some ⟨b, 0, none⟩)] w fun e w' => e = .returned (.bool p.may) ∧ w' = w := by
  have km := made16 h
  obtain ⟨c0, c1, c2, c3, c4⟩ := h.cells
  have hlt := h.lt
  have hm := h.inv.mode
  have k1 := one16 h
  have HF : Hid (p.may = (decide (p.mode = 2) || decide (p.mode = 1) && !p.busy)) := rfl
  clear h
  generalize p.may = r at *
  rcases hm with hm | hm | hm
  · rw [hm] at c2 HF
    clear hm
    have kf := mayF16 1 w
    rw [if_pos rfl] at kf
    go_enter Try.func16, Try.ntmps16
    go_wp2_with fail
    refine same_mono km ?_
    go_wp2_with fail
    refine same_mono kf ?_
    go_wp2_with fail
    refine same_mono k1 ?_
    go_wp2
    go_ret
    exact ⟨by rw [HF.out]; simp, rfl⟩
  · rw [hm] at c2 HF
    clear hm
    have kf := mayF16 2 w
    rw [if_neg (by decide), if_pos rfl] at kf
    go_enter Try.func16, Try.ntmps16
    go_wp2_with fail
    refine same_mono km ?_
    go_wp2_with fail
    refine same_mono kf ?_
    go_wp2_with fail
    refine same_mono (all16 _) ?_
    go_wp2
    go_ret
    exact ⟨by rw [HF.out]; simp, rfl⟩
  · rw [hm] at c2 HF
    clear hm
    have kf := mayF16 3 w
    rw [if_neg (by decide), if_neg (by decide)] at kf
    go_enter Try.func16, Try.ntmps16
    go_wp2_with fail
    refine same_mono km ?_
    go_wp2_with fail
    refine same_mono kf ?_
    go_wp2_with fail
    refine same_mono (nothing16 _) ?_
    go_wp2
    go_ret
    exact ⟨by rw [HF.out]; simp, rfl⟩
end
section
variable {w w' : World} {b : Nat} {p : PP}
set_option maxRecDepth 100000 in
set_option maxHeartbeats 1000000 in
theorem said16 (h : PAt w b p) (n : Int) : Calls Try.prog 12 #[.pointer (some ⟨b, 0, none⟩), .int .i64 n] w fun e w' => e = .returned (.bool (p.said n).1) ∧ PTurn w b (p.said n).2 w' := by
  have km := made16 h
  have km0 := km
  have kc := counted16 n w
  have hc := cnt16_in n
  obtain ⟨c0, c1, c2, c3, c4⟩ := h.cells
  have hlt := h.lt
  have HI : Hid (p.said n).2.Inv := (h.inv.said n).1
  have HB : Hid p.Inv := h.inv
  have HH : Hid (Ob16 w b p) := h.obj
  have hn := h.inv.n1
  have hn0 : 0 < p.next := by have := h.inv.up; have := h.inv.m0; omega
  have hm1 : 0 ≤ p.m ∧ p.m ≤ 1125899906842624 := ⟨h.inv.m0, h.inv.m1⟩
  clear h
  by_cases h1 : cnt16 n < p.m
  · have HF : Hid (p.said n = (false, p)) := if_pos h1
    rw [HF.out]
    generalize cnt16 n = c at *
    go_enter Try.func12, Try.ntmps12
    go_wp2_with fail
    refine same_mono kc ?_
    go_wp2_with fail
    refine same_mono km ?_
    go_wp2
    go_ret
    exact ⟨rfl, ⟨HH.out, HB.out⟩, Below.refl _ _⟩
  · have hw : IntKind.i64.wrap (cnt16 n + 1) = cnt16 n + 1 := by rw [IntKind.wrap_i64]; omega
    have HF : Hid (p.said n = (decide (p.m < cnt16 n), if p.mode = 1 ∨ p.mode = 3 ∧ p.snap ≤ cnt16 n then (p.up16 (cnt16 n)).turn 2 (cnt16 n + 1) else p.up16 (cnt16 n))) := if_neg h1
    rw [HF.out] at HI ⊢
    have f0 := HH.out.frozen 0
    have f1 := HH.out.frozen 1
    have hmo := HB.out.mode
    generalize hC : cnt16 n = c at *
    clear hC
    rcases Int.lt_or_le p.next (c + 1) with hx | hx
    · have hX : max p.next (c + 1) = c + 1 := by omega
      have h2 : Ob16 ((w.setCell ⟨b, 1, none⟩ (.int .i64 c)).setCell ⟨b, 0, none⟩ (.int .i64 (c + 1))) b (p.up16 c) := by
        have := (HH.out.m c).next (c + 1)
        unfold PP.up16
        rw [hX]
        exact this
      have hb2 : Below b w ((w.setCell ⟨b, 1, none⟩ (.int .i64 c)).setCell ⟨b, 0, none⟩ (.int .i64 (c + 1))) := (below_set16 w (Nat.le_refl b) _ _).trans (below_set16 _ (Nat.le_refl b) _ _)
      clear hX
      obtain ⟨d0, d1, d2, d3, d4⟩ := h2.cells
      unfold PP.up16 at d2 d3
      dsimp only at d2 d3
      have hl2 := h2.lt
      have kt := turn16 h2 2 (c + 1)
      have HO : Hid (Ob16 ((w.setCell ⟨b, 1, none⟩ (.int .i64 c)).setCell ⟨b, 0, none⟩ (.int .i64 (c + 1))) b (p.up16 c)) := h2
      clear d0 d1 d4 h2 HF HH HB km
      have km2 := km0
      generalize hW : (w.setCell ⟨b, 1, none⟩ (.int .i64 c)).setCell ⟨b, 0, none⟩ (.int .i64 (c + 1)) = W at *
      rcases hmo with hm | hm | hm
      · rw [hm] at d2
        rw [if_pos (.inl hm)] at HI ⊢
        clear hm
        go_enter Try.func12, Try.ntmps12
        go_wp2_with fail
        refine same_mono kc ?_
        go_wp2_with fail
        refine same_mono km2 ?_
        go_wp2_with fail
        refine kt.mono ?_
        rintro e w1 ⟨rfl, h1', hb1⟩
        go_wp2
        go_ret
        exact ⟨rfl, ⟨h1', HI.out⟩, hb2.trans hb1⟩
      · rw [hm] at d2
        rw [if_neg (by rw [hm]; rintro (h | ⟨h, -⟩) <;> exact absurd h (by decide))] at HI ⊢
        clear hm
        go_enter Try.func12, Try.ntmps12
        go_wp2_with fail
        refine same_mono kc ?_
        go_wp2_with fail
        refine same_mono km2 ?_
        go_wp2
        go_ret
        exact ⟨rfl, ⟨HO.out, HI.out⟩, hb2⟩
      · rw [hm] at d2
        by_cases hs : p.snap ≤ c
        · rw [if_pos (.inr ⟨hm, hs⟩)] at HI ⊢
          clear hm
          go_enter Try.func12, Try.ntmps12
          go_wp2_with fail
          refine same_mono kc ?_
          go_wp2_with fail
          refine same_mono km2 ?_
          go_wp2_with fail
          refine kt.mono ?_
          rintro e w1 ⟨rfl, h1', hb1⟩
          go_wp2
          go_ret
          exact ⟨rfl, ⟨h1', HI.out⟩, hb2.trans hb1⟩
        · rw [if_neg (by rw [hm]; rintro (h | ⟨-, h⟩); exact absurd h (by decide); exact hs h)] at HI ⊢
          clear hm
          go_enter Try.func12, Try.ntmps12
          go_wp2_with fail
          refine same_mono kc ?_
          go_wp2_with fail
          refine same_mono km2 ?_
          go_wp2
          go_ret
          exact ⟨rfl, ⟨HO.out, HI.out⟩, hb2⟩
    · have hX : max p.next (c + 1) = p.next := by omega
      have h2 : Ob16 ((w.setCell ⟨b, 1, none⟩ (.int .i64 c)).setCell ⟨b, 0, none⟩ (.int .i64 (p.next))) b (p.up16 c) := by
        have := (HH.out.m c).next (p.next)
        unfold PP.up16
        rw [hX]
        exact this
      have hb2 : Below b w ((w.setCell ⟨b, 1, none⟩ (.int .i64 c)).setCell ⟨b, 0, none⟩ (.int .i64 (p.next))) := (below_set16 w (Nat.le_refl b) _ _).trans (below_set16 _ (Nat.le_refl b) _ _)
      clear hX
      obtain ⟨d0, d1, d2, d3, d4⟩ := h2.cells
      unfold PP.up16 at d2 d3
      dsimp only at d2 d3
      have hl2 := h2.lt
      have kt := turn16 h2 2 (c + 1)
      have HO : Hid (Ob16 ((w.setCell ⟨b, 1, none⟩ (.int .i64 c)).setCell ⟨b, 0, none⟩ (.int .i64 (p.next))) b (p.up16 c)) := h2
      clear d0 d1 d4 h2 HF HH HB km
      have km2 := km0
      generalize hW : (w.setCell ⟨b, 1, none⟩ (.int .i64 c)).setCell ⟨b, 0, none⟩ (.int .i64 (p.next)) = W at *
      rcases hmo with hm | hm | hm
      · rw [hm] at d2
        rw [if_pos (.inl hm)] at HI ⊢
        clear hm
        go_enter Try.func12, Try.ntmps12
        go_wp2_with fail
        refine same_mono kc ?_
        go_wp2_with fail
        refine same_mono km2 ?_
        go_wp2_with fail
        refine kt.mono ?_
        rintro e w1 ⟨rfl, h1', hb1⟩
        go_wp2
        go_ret
        exact ⟨rfl, ⟨h1', HI.out⟩, hb2.trans hb1⟩
      · rw [hm] at d2
        rw [if_neg (by rw [hm]; rintro (h | ⟨h, -⟩) <;> exact absurd h (by decide))] at HI ⊢
        clear hm
        go_enter Try.func12, Try.ntmps12
        go_wp2_with fail
        refine same_mono kc ?_
        go_wp2_with fail
        refine same_mono km2 ?_
        go_wp2
        go_ret
        exact ⟨rfl, ⟨HO.out, HI.out⟩, hb2⟩
      · rw [hm] at d2
        by_cases hs : p.snap ≤ c
        · rw [if_pos (.inr ⟨hm, hs⟩)] at HI ⊢
          clear hm
          go_enter Try.func12, Try.ntmps12
          go_wp2_with fail
          refine same_mono kc ?_
          go_wp2_with fail
          refine same_mono km2 ?_
          go_wp2_with fail
          refine kt.mono ?_
          rintro e w1 ⟨rfl, h1', hb1⟩
          go_wp2
          go_ret
          exact ⟨rfl, ⟨h1', HI.out⟩, hb2.trans hb1⟩
        · rw [if_neg (by rw [hm]; rintro (h | ⟨-, h⟩); exact absurd h (by decide); exact hs h)] at HI ⊢
          clear hm
          go_enter Try.func12, Try.ntmps12
          go_wp2_with fail
          refine same_mono kc ?_
          go_wp2_with fail
          refine same_mono km2 ?_
          go_wp2
          go_ret
          exact ⟨rfl, ⟨HO.out, HI.out⟩, hb2⟩
set_option maxRecDepth 100000 in
set_option maxHeartbeats 1000000 in
theorem refused16 (h : PAt w b p) (i n : Int) : Calls Try.prog 13 #[.pointer (some ⟨b, 0, none⟩), .int .i64 i, .int .i64 n] w fun e w' => e = .returned (.bool (p.refused i n).1) ∧ PTurn w b (p.refused i n).2 w' := by
  have km := made16 h
  have kc := counted16 i w
  have kd := counted16 n w
  have hc := cnt16_in i
  have hd := cnt16_in n
  obtain ⟨c0, c1, c2, c3, c4⟩ := h.cells
  have hlt := h.lt
  have HI : Hid (p.refused i n).2.Inv := (h.inv.refused i n).1
  have HB : Hid p.Inv := h.inv
  have HH : Hid (Ob16 w b p) := h.obj
  have hn := h.inv.n1
  have hn0 : 0 < p.next := by have := h.inv.up; have := h.inv.m0; omega
  have hm1 : 0 ≤ p.m ∧ p.m ≤ 1125899906842624 := ⟨h.inv.m0, h.inv.m1⟩
  have hw : IntKind.i64.wrap (cnt16 n + 1) = cnt16 n + 1 := by rw [IntKind.wrap_i64]; omega
  have hw2 : IntKind.i64.wrap (p.m + 1) = p.m + 1 := by rw [IntKind.wrap_i64]; omega
  have hw3 : IntKind.i64.wrap (p.next - 1) = p.next - 1 := by rw [IntKind.wrap_i64]; omega
  clear h
  by_cases h1 : cnt16 i ≤ p.m
  · have HF : Hid (p.refused i n = (false, p)) := if_pos (.inl h1)
    rw [HF.out]
    go_enter Try.func13, Try.ntmps13
    go_wp2_with fail
    refine same_mono kc ?_
    go_wp2_with fail
    refine same_mono kd ?_
    go_wp2_with fail
    refine same_mono km ?_
    go_wp2
    go_ret
    exact ⟨rfl, ⟨HH.out, HB.out⟩, Below.refl _ _⟩
  have enter : True := trivial
  by_cases h2 : p.mode ≠ 2 ∧ cnt16 i ≠ p.next - 1
  · have HF : Hid (p.refused i n = (false, p)) := if_pos (.inr h2)
    rw [HF.out]
    have h3 : (p.mode != 2) = true := bne_iff_ne.2 h2.1
    have h4 : (cnt16 i != p.next - 1) = true := bne_iff_ne.2 h2.2
    clear h2
    generalize cnt16 i = c at *
    go_enter Try.func13, Try.ntmps13
    go_wp2_with fail
    refine same_mono kc ?_
    go_wp2_with fail
    refine same_mono kd ?_
    go_wp2_with fail
    refine same_mono km ?_
    go_wp2
    go_ret
    exact ⟨rfl, ⟨HH.out, HB.out⟩, Below.refl _ _⟩
  have HF : Hid (p.refused i n = (true, p.turn 1 (p.refusedN i n))) := if_neg (by rintro (h | h); exact h1 h; exact h2 h)
  have HN : Hid (p.refusedN i n = max (min (cnt16 i) (cnt16 n + 1)) (p.m + 1)) := rfl
  rw [HF.out] at HI ⊢
  have kt := fun X => turn16 HH.out 1 X
  clear enter
  generalize p.refusedN i n = N at *
  have hmo := HB.out.mode
  have hne : p.mode = 2 ∨ p.mode ≠ 2 ∧ cnt16 i = p.next - 1 := by
    by_cases h : p.mode = 2
    · exact .inl h
    · exact .inr ⟨h, by by_cases h4 : cnt16 i = p.next - 1; exact h4; exact absurd ⟨h, h4⟩ h2⟩
  generalize cnt16 i = c at *
  generalize cnt16 n = d at *
  clear h2
  rcases hne with hm | ⟨hm, he⟩
  · rw [hm] at c2
    clear hm hmo
    go_enter Try.func13, Try.ntmps13
    go_wp2_with fail
    refine same_mono kc ?_
    go_wp2_with fail
    refine same_mono kd ?_
    go_wp2_with fail
    refine same_mono km ?_
    go_wp2_with fail
    all_goals (
      refine (kt _).mono ?_
      rintro e w1 ⟨rfl, h1', hb1⟩
      go_wp2
      go_ret
      refine ⟨rfl, ⟨?_, HI.out⟩, hb1⟩
      rw [show N = _ from HN.out]
      refine cast ?_ h1'
      congr 2
      omega)
  · have hmm : (p.mode == 2) = false := by rw [beq_eq_false_iff_ne]; exact hm
    have HE : Hid (c = p.next - 1) := he
    have hee : (c != p.next - 1) = false := by rw [he]; simp
    clear hm hmo he
    go_enter Try.func13, Try.ntmps13
    go_wp2_with fail
    refine same_mono kc ?_
    go_wp2_with fail
    refine same_mono kd ?_
    go_wp2_with fail
    refine same_mono km ?_
    go_wp2_with fail
    all_goals (
      refine (kt _).mono ?_
      rintro e w1 ⟨rfl, h1', hb1⟩
      go_wp2
      go_ret
      refine ⟨rfl, ⟨?_, HI.out⟩, hb1⟩
      rw [show N = _ from HN.out]
      refine cast ?_ h1'
      congr 2
      omega)
end
theorem live16_0 : pnew16 5 = ⟨5, 0, 1, 0, false⟩ := by kernel_rfl
theorem live16_1 : (PP.mk 5 0 1 0 false).sent 1 = ⟨5, 0, 1, 0, true⟩ := by kernel_rfl
theorem live16_2 : (PP.mk 5 0 1 0 true).refused 4 2 = (true, ⟨3, 0, 1, 0, false⟩) := by kernel_rfl
theorem live16_3 : (PP.mk 3 0 1 0 false).said 2 = (true, ⟨3, 2, 2, 0, false⟩) := by kernel_rfl
theorem live16_4 : (PP.mk 5 0 1 0 false).may = true := by kernel_rfl
theorem live16_5 : (PP.mk 5 0 1 0 true).may = false := by kernel_rfl

set_option maxRecDepth 100000 in
set_option maxHeartbeats 2000000 in
theorem lives16 (w : World) : Calls Try.prog 9 #[] w fun e w' => e = .returned (.bool true) ∧ Below w.heap.size w w' := by
  have l1 := live16_1
  have l2 := live16_2
  have l3 := live16_3
  have l4 := live16_4
  have l5 := live16_5
  have k0 := new16_any 5 w
  rw [live16_0] at k0
  go_enter Try.func9, Try.ntmps9
  go_wp2_with fail
  refine k0.mono ?_
  rintro e w1 ⟨rfl, h1, hb1, hlt1⟩
  have k1 := may16 h1
  have k2 := sent16 h1 1
  rw [l4] at k1
  rw [l1] at k2
  clear k0 l1 l4 h1
  go_wp2_with fail
  refine same_mono k1 ?_
  go_wp2_with fail
  refine k2.mono ?_
  rintro e w2 ⟨rfl, ⟨h2, hb2⟩⟩
  have k3 := may16 h2
  have k4 := refused16 h2 4 2
  rw [l5] at k3
  rw [l2] at k4
  have hB2 := hb1.trans hb2
  clear k1 k2 l2 l5 h2 hb1 hb2 hlt1
  go_wp2_with fail
  refine same_mono k3 ?_
  go_wp2_with fail
  refine k4.mono ?_
  rintro e w3 ⟨rfl, ⟨h3, hb3⟩⟩
  have k5 := next16 h3
  have k6 := said16 h3 2
  rw [l3] at k6
  have hB3 := hB2.trans hb3
  clear k3 k4 l3 h3 hB2 hb3
  go_wp2_with fail
  refine same_mono k5 ?_
  go_wp2_with fail
  refine k6.mono ?_
  rintro e w4 ⟨rfl, ⟨h4, hb4⟩⟩
  have k7 := mode16 h4
  have k8 := match16 h4
  have k9 := next16 h4
  have hB4 := hB3.trans hb4
  clear k5 k6 h4 hB3 hb4
  go_wp2_with fail
  refine same_mono k7 ?_
  go_wp2_with fail
  refine same_mono k8 ?_
  go_wp2_with fail
  refine same_mono k9 ?_
  go_wp2
  go_ret
  exact ⟨rfl, hB4⟩

theorem PP.found16 {n : Int} (h1 : 0 ≤ n) (h2 : n ≤ 1000) : ((PP.mk (n + 1) 0 1 0 false).said n) = (decide (0 < n), ⟨n + 1, n, 2, 0, false⟩) := by
  have e2 : cnt16 n = n := cnt16_id (by omega) (by omega)
  unfold PP.said
  rw [if_neg (by rw [e2]; show ¬ n < 0; omega), if_pos (.inl rfl), e2]
  rfl

theorem pnew_is16 {n : Int} (h1 : 1 ≤ n) (h2 : n ≤ 1000) : pnew16 n = ⟨n, 0, 1, 0, false⟩ := by
  unfold pnew16
  rw [cnt16_id (by omega) (by omega), show max n 1 = n by omega]

def HasU16 (w : World) (v : Value) (xs : List Int) : Prop :=
  ∃ p c, v = .slice p xs.length c ∧ xs.length ≤ c ∧ (p = none → c = 0) ∧
    (0 < xs.length → ∃ b o, p = some ⟨b, o, none⟩ ∧ b < w.heap.size ∧ ∀ i, i < xs.length → w.cell? ⟨b, o + i, none⟩ = some (.int .u64 (xs.getD i 0)))
theorem HasU16.form {w : World} {v : Value} {xs : List Int} (h : HasU16 w v xs) : ∃ p c, v = .slice p xs.length c ∧ xs.length ≤ c ∧ ∀ i, i < xs.length → ∃ b o, p = some ⟨b, o, none⟩ ∧ b < w.heap.size ∧ w.cell? ⟨b, o + i, none⟩ = some (.int .u64 (xs.getD i 0)) := by
  obtain ⟨p, c, hv, hc, -, hx⟩ := h
  refine ⟨p, c, hv, hc, fun i hi => ?_⟩
  obtain ⟨b, o, hp, hl, hy⟩ := hx (by omega)
  exact ⟨b, o, hp, hl, hy i hi⟩
theorem PP.streams16 {X h n : Int} (h1 : h < X) (h0 : 0 ≤ h) (h2 : X ≤ 100000) (h3 : 0 ≤ n) (h4 : n ≤ 1000) : (PP.mk X h 2 0 false).sent n = ⟨X + n, h, 2, 0, false⟩ := by
  have e2 : cnt16 n = n := cnt16_id (by omega) (by omega)
  have e : (PP.mk X h 2 0 false).sent n = ⟨max X (min (X + cnt16 n) 1125899906842624), h, 2, 0, false⟩ := (if_neg (by show ¬ (2 : Int) = 1; decide)).trans (if_pos rfl)
  rw [e, e2, show max X (min (X + n) 1125899906842624) = X + n by omega]
theorem PP.stops16 {X h : Int} (h1 : h + 1 < X) (h0 : 0 ≤ h) (h2 : X ≤ 100000) : (PP.mk X h 2 0 false).refused (X - 1) h = (true, ⟨h + 1, h, 1, 0, false⟩) := by
  have e2 : cnt16 (X - 1) = X - 1 := cnt16_id (by omega) (by omega)
  have e3 : cnt16 h = h := cnt16_id (by omega) (by omega)
  have e4 : (PP.mk X h 2 0 false).refusedN (X - 1) h = h + 1 := by
    unfold PP.refusedN
    rw [e2, e3]
    show max (min (X - 1) (h + 1)) (h + 1) = h + 1
    omega
  unfold PP.refused
  rw [if_neg, e4]
  · rfl
  · rw [e2]
    rintro (h3 | ⟨h3, -⟩)
    · have : X - 1 ≤ h := h3
      omega
    · exact h3 rfl
set_option maxRecDepth 100000 in
set_option maxHeartbeats 2000000 in
theorem progressStreams_of (hv : Int) (v : Value) (xs : List Int) (w : World) (h2 : 0 ≤ hv ∧ hv ≤ 18446744073709551615) (hx : HasU16 w v xs) (hxs : ∀ x ∈ xs, 0 ≤ x) (hl : xs.length ≤ 140737488351232) :
    Calls Try.prog 6 #[.int .u64 hv, v] w fun e w' => e = .returned (.bool true) ∧ Below w.heap.size w w' := by
  obtain ⟨pp, cc, rfl, hcc, hat⟩ := hx.form
  clear hx
  have hh : 0 ≤ hv % 1000 ∧ hv % 1000 < 1000 := by omega
  have k0 := new16_any (hv % 1000 + 1) w
  rw [pnew_is16 (by omega) (by omega)] at k0
  have kf := PP.found16 (n := hv % 1000) hh.1 (by omega)
  by_cases hlen : 100 < xs.length
  · have hln : (100 : Int) < (xs.length : Int) := by omega
    go_enter Try.func6, Try.ntmps6
    go_wp2_with fail
    refine k0.mono ?_
    rintro e w1 ⟨rfl, h3, hb1, hlt1⟩
    have kl := lives16 w1
    clear k0 kf hat
    go_wp2_with fail
    refine kl.mono ?_
    rintro e w3 ⟨rfl, hb3⟩
    go_wp2
    go_ret
    exact ⟨rfl, hb1.trans (hb3.mono hb1.size)⟩
  go_enter Try.func6, Try.ntmps6
  go_wp2_with fail
  generalize hv % 1000 = h at *
  refine k0.mono ?_
  rintro e w1 ⟨rfl, h3, hb1, hlt1⟩
  have ks := said16 h3 h
  rw [kf] at ks
  obtain ⟨b, hb⟩ : ∃ b, b = w.heap.size := ⟨_, rfl⟩
  have HB0 : Hid (b = w.heap.size) := hb
  rw [← hb] at ks ⊢
  clear k0 kf h3 hlt1 hb
  go_wp2_with fail
  refine ks.mono ?_
  rintro e w2 ⟨rfl, ⟨h3, hb2⟩⟩
  have hB2 := hb1.trans (hb2.mono (by rw [HB0.out]; exact Nat.le_refl _))
  clear ks hb1 hb2
  go_wp2
  go_loopw [7, 35] (fun s7 s wr => ∃ (j : Nat) (X : Int), j ≤ xs.length ∧ s = .int .i64 j ∧ s7 = .int .i64 X ∧ h + 1 ≤ X ∧ X ≤ h + 1 + 99 * j ∧ PAt wr b ⟨X, h, 2, 0, false⟩ ∧ Below w.heap.size w wr) (fun _ s _ => xs.length - (intOf s).toNat)
  case atStart => exact ⟨0, h + 1, by omega, rfl, rfl, by omega, by omega, h3, hB2⟩
  case round =>
    obtain ⟨j, X, hj, rfl, rfl, hX1, hX2, hp, hbw⟩ := hrel
    have hX3 : X ≤ 20000 := by omega
    by_cases hlt : j < xs.length
    · obtain ⟨b2, o, rfl, hbl, hc⟩ := hat j hlt
      have hx0 : 0 ≤ xs.getD j 0 := by
        rw [List.getD_eq_getElem?_getD, List.getElem?_eq_getElem hlt, Option.getD_some]
        exact hxs _ (List.getElem_mem _)
      generalize xs.getD j 0 = x at *
      have hx1 : 0 ≤ x % 100 ∧ x % 100 < 100 := by omega
      have hc3 := (hbw.cell (p := ⟨b2, o + j, none⟩) hbl).trans hc
      have hj1 : (j : Int) < (xs.length : Int) := by omega
      have ka := mode16 hp
      have kb := may16 hp
      have kc := next16 hp
      have kd := match16 hp
      have ks := sent16 hp (x % 100)
      rw [PP.streams16 (by omega) (by omega) (by omega) (by omega) (by omega)] at ks
      rw [show PP.may ⟨X, h, 2, 0, false⟩ = true from rfl] at kb
      dsimp only at ka kc kd
      have hwX : IntKind.i64.wrap (X + x % 100) = X + x % 100 := by rw [IntKind.wrap_i64]; omega
      clear h3 hB2 hp
      go_wp2_with fail
      refine same_mono ka ?_
      go_wp2_with fail
      refine same_mono kb ?_
      go_wp2_with fail
      refine same_mono kc ?_
      go_wp2_with fail
      refine same_mono kd ?_
      go_wp2_with fail
      refine ks.mono ?_
      rintro e w3 ⟨rfl, ⟨h4, hb3⟩⟩
      have hB3 := hbw.trans (hb3.mono (by rw [HB0.out]; exact Nat.le_refl _))
      go_wp2
      go_roundw
      case rel => exact ⟨j + 1, X + x % 100, by omega, by go_num, rfl, by omega, by omega, h4, hB3⟩
      case measure => simp only [intOf]; omega
    · obtain rfl : j = xs.length := by omega
      clear hat h3 hB2
      by_cases hXh : X = h + 1
      · subst hXh
        have kl := lives16 wr
        go_wp2_with fail
        refine kl.mono ?_
        rintro e w3 ⟨rfl, hb3⟩
        go_wp2
        go_ret
        exact ⟨rfl, hbw.trans (hb3.mono hbw.size)⟩
      · have hXe : (X == h + 1) = false := by rw [beq_eq_false_iff_ne]; exact hXh
        have hwX : IntKind.i64.wrap (X - 1) = X - 1 := by rw [IntKind.wrap_i64]; omega
        have kr := refused16 hp (X - 1) h
        rw [PP.stops16 (by omega) (by omega) (by omega)] at kr
        have hlen' : (xs.length : Int) ≤ 100 := by omega
        go_wp2_with fail
        refine kr.mono ?_
        rintro e w3 ⟨rfl, ⟨h4, hb3⟩⟩
        have hB3 := hbw.trans (hb3.mono (by rw [HB0.out]; exact Nat.le_refl _))
        have ka := mode16 h4
        have kc := next16 h4
        have ks := sent16 h4 1
        rw [show (PP.mk (h + 1) h 1 0 false).sent 1 = ⟨h + 1, h, 1, 0, true⟩ from if_pos rfl] at ks
        dsimp only at ka kc
        clear kr h4 hb3
        go_wp2_with fail
        refine same_mono ka ?_
        go_wp2_with fail
        refine same_mono kc ?_
        go_wp2_with fail
        refine ks.mono ?_
        rintro e w4 ⟨rfl, ⟨h5, hb4⟩⟩
        have hB4 := hB3.trans (hb4.mono (by rw [HB0.out]; exact Nat.le_refl _))
        have km := may16 h5
        rw [show PP.may ⟨h + 1, h, 1, 0, true⟩ = false from rfl] at km
        have kl := lives16 w4
        clear ka kc ks h5 hb4
        go_wp2_with fail
        refine same_mono km ?_
        go_wp2_with fail
        refine kl.mono ?_
        rintro e w5 ⟨rfl, hb5⟩
        go_wp2
        go_ret
        exact ⟨rfl, hB4.trans (hb5.mono hB4.size)⟩
theorem progressStreams_row (hv : Int) (v : Value) (xs : List Int) (w : World) (h2 : 0 ≤ hv ∧ hv ≤ 18446744073709551615) (hx : HasU16 w v xs) (hxs : ∀ x ∈ xs, 0 ≤ x) (hl : xs.length ≤ 140737488351232) :
    Calls Try.prog 6 #[.int .u64 hv, v] w fun e w' => e = .returned (.bool true) ∧ Below w.heap.size w w' := progressStreams_of hv v xs w h2 hx hxs hl
end Go.Proofs.Ytgjjbnnojmighaa
