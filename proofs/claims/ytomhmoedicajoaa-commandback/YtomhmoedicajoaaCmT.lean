/-
  The walk of CommandTells.
-/
import Derived.Test.YtomhmoedicajoaaCmG
namespace Go.Proofs.Ytomhmoedicajoaa
open Go.RowKit

/-- A box's eight cells, and that the memory of w1 lies as it lay. -/
theorem keep9 {w1 wA wB : World} {b : Nat} {x0 x1 x2 x3 x4 x5 x6 x7 : Value} (hlt : b < w1.heap.size) (h : wA.cell? ⟨b, 0, none⟩ = some x0 ∧ wA.cell? ⟨b, 1, none⟩ = some x1 ∧ wA.cell? ⟨b, 2, none⟩ = some x2 ∧ wA.cell? ⟨b, 3, none⟩ = some x3 ∧ wA.cell? ⟨b, 4, none⟩ = some x4 ∧ wA.cell? ⟨b, 5, none⟩ = some x5 ∧ wA.cell? ⟨b, 6, none⟩ = some x6 ∧ wA.cell? ⟨b, 7, none⟩ = some x7 ∧ Below w1.heap.size w1 wA) (hb : Below wA.heap.size wA wB) :
    wB.cell? ⟨b, 0, none⟩ = some x0 ∧ wB.cell? ⟨b, 1, none⟩ = some x1 ∧ wB.cell? ⟨b, 2, none⟩ = some x2 ∧ wB.cell? ⟨b, 3, none⟩ = some x3 ∧ wB.cell? ⟨b, 4, none⟩ = some x4 ∧ wB.cell? ⟨b, 5, none⟩ = some x5 ∧ wB.cell? ⟨b, 6, none⟩ = some x6 ∧ wB.cell? ⟨b, 7, none⟩ = some x7 ∧ Below w1.heap.size w1 wB := by
  obtain ⟨h0, h1, h2, h3, h4, h5, h6, h7, h8⟩ := h
  have hz := h8.size
  have hl : b < wA.heap.size := by omega
  refine ⟨?_, ?_, ?_, ?_, ?_, ?_, ?_, ?_, h8.trans (hb.mono hz)⟩
  · exact (hb.cell (p := ⟨b, 0, none⟩) hl).trans h0
  · exact (hb.cell (p := ⟨b, 1, none⟩) hl).trans h1
  · exact (hb.cell (p := ⟨b, 2, none⟩) hl).trans h2
  · exact (hb.cell (p := ⟨b, 3, none⟩) hl).trans h3
  · exact (hb.cell (p := ⟨b, 4, none⟩) hl).trans h4
  · exact (hb.cell (p := ⟨b, 5, none⟩) hl).trans h5
  · exact (hb.cell (p := ⟨b, 6, none⟩) hl).trans h6
  · exact (hb.cell (p := ⟨b, 7, none⟩) hl).trans h7
theorem start9 {w1 : World} {b : Nat} {x0 x1 x2 x3 x4 x5 x6 x7 : Value} (h0 : w1.cell? ⟨b, 0, none⟩ = some x0) (h1 : w1.cell? ⟨b, 1, none⟩ = some x1) (h2 : w1.cell? ⟨b, 2, none⟩ = some x2) (h3 : w1.cell? ⟨b, 3, none⟩ = some x3) (h4 : w1.cell? ⟨b, 4, none⟩ = some x4) (h5 : w1.cell? ⟨b, 5, none⟩ = some x5) (h6 : w1.cell? ⟨b, 6, none⟩ = some x6) (h7 : w1.cell? ⟨b, 7, none⟩ = some x7) :
    w1.drew.cell? ⟨b, 0, none⟩ = some x0 ∧ w1.drew.cell? ⟨b, 1, none⟩ = some x1 ∧ w1.drew.cell? ⟨b, 2, none⟩ = some x2 ∧ w1.drew.cell? ⟨b, 3, none⟩ = some x3 ∧ w1.drew.cell? ⟨b, 4, none⟩ = some x4 ∧ w1.drew.cell? ⟨b, 5, none⟩ = some x5 ∧ w1.drew.cell? ⟨b, 6, none⟩ = some x6 ∧ w1.drew.cell? ⟨b, 7, none⟩ = some x7 ∧ Below w1.heap.size w1 w1.drew :=
  ⟨h0, h1, h2, h3, h4, h5, h6, h7, ⟨rfl, rfl, rfl, Nat.le_refl _, fun _ _ => rfl⟩⟩
theorem held9 {w1 wA : World} {b : Nat} {x0 x1 x2 x3 x4 x5 x6 x7 : Value} (h : wA.cell? ⟨b, 0, none⟩ = some x0 ∧ wA.cell? ⟨b, 1, none⟩ = some x1 ∧ wA.cell? ⟨b, 2, none⟩ = some x2 ∧ wA.cell? ⟨b, 3, none⟩ = some x3 ∧ wA.cell? ⟨b, 4, none⟩ = some x4 ∧ wA.cell? ⟨b, 5, none⟩ = some x5 ∧ wA.cell? ⟨b, 6, none⟩ = some x6 ∧ wA.cell? ⟨b, 7, none⟩ = some x7 ∧ Below w1.heap.size w1 wA) : Below w1.heap.size w1 wA := h.2.2.2.2.2.2.2.2

set_option maxRecDepth 100000 in
set_option maxHeartbeats 1500000 in
theorem tells_walk (c : Cmd9) (kind : Int) (w : World) (hf : Fits9 c) (_hk : -9223372036854775808 ≤ kind ∧ kind ≤ 9223372036854775807) :
    Calls Try.prog 3 #[.agg c.arr, .int .i64 kind] w fun e w' => e = .returned (.bool true) ∧ Below w.heap.size w w' := by
  have k0 := fun w => great_any c w hf.1 hf.2.1 hf.2.2.1 hf.2.2.2.1
  have k9 := fun w => lives_any w
  have hB0 := Box9.new w c
  by_cases hg : 5000 < c.key.size + c.old.size + c.val.size + c.unt.size
  · rw [decide_eq_true hg] at k0
    clear hg hf
    obtain ⟨k, s, q, key, old, val, unt, lim⟩ := c
    unfold Cmd9.arr at *
    dsimp only at *
    go_enter Try.func3, Try.ntmps3
    go_wp2_with fail
    refine (k0 _).mono ?_
    rintro e w1 ⟨rfl, hb1⟩
    have hB1 := hB0.below hb1
    clear hb1 hB0
    go_wp2_with fail
    refine (k9 _).mono ?_
    rintro e w2 ⟨rfl, hb2⟩
    have hB2 := hB1.below hb2
    go_wp2
    go_ret
    exact ⟨rfl, hB2.2.1⟩
  · rw [decide_eq_false hg] at k0
    have hsz : c.key.size ≤ 5000 ∧ c.old.size ≤ 5000 ∧ c.val.size ≤ 5000 ∧ c.unt.size ≤ 5000 := by omega
    have k1 := fun w => good_any c w
    have k2 := fun w => rgood_any c w
    have k3 := fun w => reads_any c w
    have k4 := fun w => rreads_any c w
    have k5 := fun w => changes_any kind w
    have k6 := fun w => rchanges_any kind w
    have k7 := fun w => bytes_any c w hsz
    have k8 := fun w => rbytes_any c w hsz
    have HB : Hid (IsB (cmdB c)) := cmdB_isB c
    generalize good9 c = g at *
    generalize reads9 c = r at *
    generalize changes9 kind = h at *
    generalize cmdB c = xs at *
    clear hg hf hsz
    obtain ⟨k, s, q, key, old, val, unt, lim⟩ := c
    unfold Cmd9.arr at *
    dsimp only at *
    go_enter Try.func3, Try.ntmps3
    go_wp2_with fail
    refine (k0 _).mono ?_
    rintro e w1 ⟨rfl, hb1⟩
    have hB1 := hB0.below hb1
    obtain ⟨c0, c1, c2, c3, c4, c5, c6, c7⟩ := hB1.cells
    have hlt1 := hB1.1.lt
    clear hb1 hB0
    generalize hb : w.heap.size = b at *
    have Hb : Hid (w.heap.size = b) := hb
    clear hb
    have s0 := start9 c0 c1 c2 c3 c4 c5 c6 c7
    have hsm : ∀ (x y : Value) (W : World), Has W x xs → Has W y xs → Calls Try.prog 17 #[x, y] W fun e w' => e = .returned (.bool true) ∧ w' = W := fun x y W hx hy => by
      have := same_any x y xs xs W hx hy HB.out HB.out
      rwa [beq_self_eq_true] at this
    clear c0 c1 c2 c3 c4 c5 c6 c7
    go_wp2_with fail
    go_region_held3 (fun w' => w'.cell? ⟨b, 0, none⟩ = some (.int .i64 k) ∧ w'.cell? ⟨b, 1, none⟩ = some (.int .i64 s) ∧ w'.cell? ⟨b, 2, none⟩ = some (.int .i64 q) ∧ w'.cell? ⟨b, 3, none⟩ = some (.string key) ∧ w'.cell? ⟨b, 4, none⟩ = some (.string old) ∧ w'.cell? ⟨b, 5, none⟩ = some (.string val) ∧ w'.cell? ⟨b, 6, none⟩ = some (.string unt) ∧ w'.cell? ⟨b, 7, none⟩ = some (.int .i64 lim) ∧ Below w1.heap.size w1 w')
      (first | exact s0 | assumption | exact keep9 hlt1 (by assumption) (by assumption))
      (first
        | (go_at_call 11; refine Calls.mono (k1 _) ?_; rintro e w2 ⟨rfl, hb2⟩)
        | (go_at_call 12; refine Calls.mono (k2 _) ?_; rintro e w3 ⟨rfl, hb3⟩)
        | (go_at_call 13; refine Calls.mono (k3 _) ?_; rintro e w4 ⟨rfl, hb4⟩)
        | (go_at_call 14; refine Calls.mono (k4 _) ?_; rintro e w5 ⟨rfl, hb5⟩)
        | (go_at_call 15; refine same_mono (k5 _) ?_)
        | (go_at_call 16; refine same_mono (k6 _) ?_)
        | (go_at_call 18; refine Calls.mono (k7 _) ?_; rintro e w6 ⟨v6, rfl, ho6, hb6⟩; obtain ⟨p6, q6, rfl, -, -, -⟩ := id ho6.has; replace ho6 := ho6.has)
        | (go_at_call 19; refine Calls.mono (k8 _) ?_; rintro e w7 ⟨v7, rfl, ho7, hb7⟩; obtain ⟨p7, q7, rfl, -, -, -⟩ := id ho7.has; replace ho7 := ho7.has)
        | (go_at_call 17; refine same_mono (hsm _ _ _ (ho6.below hb7 (Nat.le_refl _)) ho7) ?_)
        | (go_at_call 10; refine Calls.mono (k9 _) ?_; rintro e w8 ⟨rfl, hb8⟩))
    all_goals
      go_wp2
      go_ret
      exact ⟨rfl, (hB1.below (held9 (by assumption))).2.1⟩
end Go.Proofs.Ytomhmoedicajoaa
