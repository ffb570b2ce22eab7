/-
  The walk of CommandKinds.
-/
import Derived.Test.YtomhmoedicajoaaCmE
import Derived.Test.YtomhmoedicajoaaHRowC
namespace Go.Proofs.Ytomhmoedicajoaa
open Go.RowKit Go.Lib

theorem asks_s {c n : Cmd9} (h : asks9 c n = true) : 1 ≤ c.s := by
  unfold asks9 at h
  simp only [Bool.and_eq_true, decide_eq_true_eq] at h
  exact h.1.1
theorem good_s {c : Cmd9} (h : good9 c = true) : c.k = 1 ∨ 1 ≤ c.s := by
  unfold good9 at h
  repeat' split at h
  all_goals first
    | (left; assumption)
    | (right; simp only [Bool.and_eq_true, decide_eq_true_eq] at h; first | exact asks_s h.2 | exact h.1)
    | cases h
theorem reads_is {c : Cmd9} (h : reads9 c = true) : good9 ⟨c.k, 1, 1, c.key, c.old, c.val, c.unt, c.lim⟩ = true ∧ good9 c = false ∧ changes9 c.k = false := by
  unfold reads9 at h
  split at h
  · rename_i hc
    refine ⟨h, ?_, ?_⟩
    · cases hg : good9 c with
      | false => rfl
      | true =>
        have := good_s hg
        omega
    · unfold changes9
      exact decide_eq_false (by omega)
  · cases h

/-- A command's box, and that old memory lies as it lay. -/
def Box9 (w0 w : World) (b : Nat) (c : Cmd9) : Prop := CmdAt w b c ∧ Below w0.heap.size w0 w ∧ w0.heap.size ≤ b
theorem Box9.new (w : World) (c : Cmd9) : Box9 w (w.alloc (.cells c.arr 23)) w.heap.size c := ⟨CmdAt.new w c, (Below.refl _ _).alloc (Nat.le_refl _) _, Nat.le_refl _⟩
theorem Box9.below {w0 w w' : World} {b : Nat} {c : Cmd9} (h : Box9 w0 w b c) (hb : Below w.heap.size w w') : Box9 w0 w' b c := ⟨h.1.below hb, h.2.1.trans (hb.mono h.2.1.size), h.2.2⟩
theorem Box9.more {w0 w : World} {b : Nat} {c : Cmd9} (h : Box9 w0 w b c) (x : Obj) : Box9 w0 (w.alloc x) b c := h.below ((Below.refl _ _).alloc (Nat.le_refl _) x)
theorem Box9.cells {w0 w : World} {b : Nat} {k s q : Int} {key old val unt : ByteArray} {lim : Int} (h : Box9 w0 w b ⟨k, s, q, key, old, val, unt, lim⟩) :
    w.cell? ⟨b, 0, none⟩ = some (.int .i64 k) ∧ w.cell? ⟨b, 1, none⟩ = some (.int .i64 s) ∧ w.cell? ⟨b, 2, none⟩ = some (.int .i64 q) ∧ w.cell? ⟨b, 3, none⟩ = some (.string key) ∧
    w.cell? ⟨b, 4, none⟩ = some (.string old) ∧ w.cell? ⟨b, 5, none⟩ = some (.string val) ∧ w.cell? ⟨b, 6, none⟩ = some (.string unt) ∧ w.cell? ⟨b, 7, none⟩ = some (.int .i64 lim) := h.1.cells

set_option maxRecDepth 100000 in
set_option maxHeartbeats 1500000 in
theorem kinds_walk (c : Cmd9) (w : World) : Calls Try.prog 7 #[.agg c.arr] w fun e w' => e = .returned (.bool true) ∧ Below w.heap.size w w' := by
  have k1 := fun w => good_any c w
  have k2 := fun w => reads_any c w
  have k3 := fun w => good_any ⟨c.k, 1, 1, c.key, c.old, c.val, c.unt, c.lim⟩ w
  have k4 := fun w => changes_any c.k w
  have k5 := fun w => lives_any w
  have hB0 := Box9.new w c
  have H1 : Hid (good9 c = true → c.k = 1 ∨ 1 ≤ c.s) := good_s
  cases hr : reads9 c with
  | true =>
    obtain ⟨h1, h2, h3⟩ := reads_is hr
    rw [hr] at k2
    rw [h2] at k1
    rw [h1] at k3
    rw [h3] at k4
    clear hr h1 h2 h3
    obtain ⟨k, s, q, key, old, val, unt, lim⟩ := c
    unfold Cmd9.arr at *
    dsimp only at *
    go_enter Try.func7, Try.ntmps7
    go_wp2_with fail
    refine (k1 _).mono ?_
    rintro e w1 ⟨rfl, hb1⟩
    have hB1 := hB0.below hb1
    obtain ⟨c0, c1, c2, c3, c4, c5, c6, c7⟩ := hB1.cells
    have hlt1 := hB1.1.lt
    clear hb1 hB0
    generalize hb : w.heap.size = b at *
    have Hb : Hid (w.heap.size = b) := hb
    clear hb
    have hD1 := CmdAt.new w1 ⟨k, 1, 1, key, old, val, unt, lim⟩
    have hM1 := hB1.more (.cells (Cmd9.mk k 1 1 key old val unt lim).arr 23)
    go_wp2_with fail
    refine (k2 _).mono ?_
    rintro e w2 ⟨rfl, hb2⟩
    have hB2 := hM1.below hb2
    have hE := hD1.below hb2
    obtain ⟨c0, c1, c2, c3, c4, c5, c6, c7⟩ := hB2.cells
    obtain ⟨d0, d1, d2, d3, d4, d5, d6, d7⟩ := hE.cells
    dsimp only at d0 d1 d2 d3 d4 d5 d6 d7
    have hlt2 := hB2.1.lt
    clear hb2 hB1 hD1 hM1 hE hlt1
    generalize w1.heap.size = x at *
    go_wp2_with fail
    refine (k3 _).mono ?_
    rintro e w3 ⟨rfl, hb3⟩
    have hB3 := hB2.below hb3
    obtain ⟨c0, c1, c2, c3, c4, c5, c6, c7⟩ := hB3.cells
    have hlt3 := hB3.1.lt
    clear hb3 hB2 hlt2
    go_wp2_with fail
    refine same_mono (k4 _) ?_
    go_wp2_with fail
    refine (k1 _).mono ?_
    rintro e w4 ⟨rfl, hb4⟩
    have hB4 := hB3.below hb4
    obtain ⟨c0, c1, c2, c3, c4, c5, c6, c7⟩ := hB4.cells
    have hlt4 := hB4.1.lt
    clear hb4 hB3 hlt3
    go_wp2_with fail
    refine (k5 _).mono ?_
    rintro e w9 ⟨rfl, hb9⟩
    have hB9 := hB4.below hb9
    go_wp2
    go_ret
    exact ⟨rfl, hB9.2.1⟩
  | false =>
    rw [hr] at k2
    clear hr k3
    cases hg : good9 c with
    | false =>
      rw [hg] at k1
      clear hg H1
      obtain ⟨k, s, q, key, old, val, unt, lim⟩ := c
      unfold Cmd9.arr at *
      dsimp only at *
      go_enter Try.func7, Try.ntmps7
      go_wp2_with fail
      refine (k1 _).mono ?_
      rintro e w1 ⟨rfl, hb1⟩
      have hB1 := hB0.below hb1
      obtain ⟨c0, c1, c2, c3, c4, c5, c6, c7⟩ := hB1.cells
      have hlt1 := hB1.1.lt
      clear hb1 hB0
      generalize hb : w.heap.size = b at *
      have Hb : Hid (w.heap.size = b) := hb
      clear hb
      have hD1 := CmdAt.new w1 ⟨k, 1, 1, key, old, val, unt, lim⟩
      have hM1 := hB1.more (.cells (Cmd9.mk k 1 1 key old val unt lim).arr 23)
      go_wp2_with fail
      refine (k2 _).mono ?_
      rintro e w2 ⟨rfl, hb2⟩
      have hB2 := hM1.below hb2
      have hE := hD1.below hb2
      obtain ⟨c0, c1, c2, c3, c4, c5, c6, c7⟩ := hB2.cells
      obtain ⟨d0, d1, d2, d3, d4, d5, d6, d7⟩ := hE.cells
      dsimp only at d0 d1 d2 d3 d4 d5 d6 d7
      have hlt2 := hB2.1.lt
      clear hb2 hB1 hD1 hM1 hE hlt1
      generalize w1.heap.size = x at *
      go_wp2_with fail
      refine (k1 _).mono ?_
      rintro e w3 ⟨rfl, hb3⟩
      have hB3 := hB2.below hb3
      obtain ⟨c0, c1, c2, c3, c4, c5, c6, c7⟩ := hB3.cells
      have hlt3 := hB3.1.lt
      clear hb3 hB2 hlt2
      go_wp2_with fail
      refine (k5 _).mono ?_
      rintro e w9 ⟨rfl, hb9⟩
      have hB9 := hB3.below hb9
      go_wp2
      go_ret
      exact ⟨rfl, hB9.2.1⟩
    | true =>
      rw [hg] at k1
      have hs := H1.out hg
      clear hg H1
      obtain ⟨k, s, q, key, old, val, unt, lim⟩ := c
      unfold Cmd9.arr at *
      dsimp only at *
      by_cases hk : k = 1
      · subst hk
        clear hs
        go_enter Try.func7, Try.ntmps7
        go_wp2_with fail
        refine (k1 _).mono ?_
        rintro e w1 ⟨rfl, hb1⟩
        have hB1 := hB0.below hb1
        obtain ⟨c0, c1, c2, c3, c4, c5, c6, c7⟩ := hB1.cells
        have hlt1 := hB1.1.lt
        clear hb1 hB0
        generalize hb : w.heap.size = b at *
        have Hb : Hid (w.heap.size = b) := hb
        clear hb
        go_wp2_with fail
        refine (k2 _).mono ?_
        rintro e w2 ⟨rfl, hb2⟩
        have hB2 := hB1.below hb2
        obtain ⟨c0, c1, c2, c3, c4, c5, c6, c7⟩ := hB2.cells
        have hlt2 := hB2.1.lt
        clear hb2 hB1 hlt1
        have hD2 := CmdAt.new w2 ⟨1, 1, 1, key, old, val, unt, lim⟩
        have hM2 := hB2.more (.cells (Cmd9.mk 1 1 1 key old val unt lim).arr 23)
        go_wp2_with fail
        refine (k2 _).mono ?_
        rintro e w3 ⟨rfl, hb3⟩
        have hB3 := hM2.below hb3
        have hE := hD2.below hb3
        obtain ⟨c0, c1, c2, c3, c4, c5, c6, c7⟩ := hB3.cells
        obtain ⟨d0, d1, d2, d3, d4, d5, d6, d7⟩ := hE.cells
        dsimp only at d0 d1 d2 d3 d4 d5 d6 d7
        have hlt3 := hB3.1.lt
        clear hb3 hB2 hD2 hM2 hE hlt2
        generalize w2.heap.size = x at *
        go_wp2_with fail
        refine (k1 _).mono ?_
        rintro e w4 ⟨rfl, hb4⟩
        have hB4 := hB3.below hb4
        obtain ⟨c0, c1, c2, c3, c4, c5, c6, c7⟩ := hB4.cells
        have hlt4 := hB4.1.lt
        clear hb4 hB3 hlt3
        go_wp2_with fail
        refine (k5 _).mono ?_
        rintro e w9 ⟨rfl, hb9⟩
        have hB9 := hB4.below hb9
        go_wp2
        go_ret
        exact ⟨rfl, hB9.2.1⟩
      · replace hs : 1 ≤ s := by omega
        have hk2 : (k == 1) = false := by simpa using hk
        go_enter Try.func7, Try.ntmps7
        go_wp2_with fail
        refine (k1 _).mono ?_
        rintro e w1 ⟨rfl, hb1⟩
        have hB1 := hB0.below hb1
        obtain ⟨c0, c1, c2, c3, c4, c5, c6, c7⟩ := hB1.cells
        have hlt1 := hB1.1.lt
        clear hb1 hB0
        generalize hb : w.heap.size = b at *
        have Hb : Hid (w.heap.size = b) := hb
        clear hb
        go_wp2_with fail
        refine (k2 _).mono ?_
        rintro e w2 ⟨rfl, hb2⟩
        have hB2 := hB1.below hb2
        obtain ⟨c0, c1, c2, c3, c4, c5, c6, c7⟩ := hB2.cells
        have hlt2 := hB2.1.lt
        clear hb2 hB1 hlt1
        have hD2 := CmdAt.new w2 ⟨k, 1, 1, key, old, val, unt, lim⟩
        have hM2 := hB2.more (.cells (Cmd9.mk k 1 1 key old val unt lim).arr 23)
        go_wp2_with fail
        refine (k2 _).mono ?_
        rintro e w3 ⟨rfl, hb3⟩
        have hB3 := hM2.below hb3
        have hE := hD2.below hb3
        obtain ⟨c0, c1, c2, c3, c4, c5, c6, c7⟩ := hB3.cells
        obtain ⟨d0, d1, d2, d3, d4, d5, d6, d7⟩ := hE.cells
        dsimp only at d0 d1 d2 d3 d4 d5 d6 d7
        have hlt3 := hB3.1.lt
        clear hb3 hB2 hD2 hM2 hE hlt2
        generalize w2.heap.size = x at *
        go_wp2_with fail
        refine (k1 _).mono ?_
        rintro e w4 ⟨rfl, hb4⟩
        have hB4 := hB3.below hb4
        obtain ⟨c0, c1, c2, c3, c4, c5, c6, c7⟩ := hB4.cells
        have hlt4 := hB4.1.lt
        clear hb4 hB3 hlt3
        go_wp2_with fail
        refine (k5 _).mono ?_
        rintro e w9 ⟨rfl, hb9⟩
        have hB9 := hB4.below hb9
        go_wp2
        go_ret
        exact ⟨rfl, hB9.2.1⟩
theorem kinds_row (c : Cmd9) (w : World) (_ : Fits9 c) : Calls Try.prog 7 #[.agg c.arr] w fun e w' => e = .returned (.bool true) ∧ Below w.heap.size w w' := kinds_walk c w
end Go.Proofs.Ytomhmoedicajoaa
