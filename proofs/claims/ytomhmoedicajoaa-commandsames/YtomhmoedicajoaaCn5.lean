/-
  The walk of CommandSames.
-/
import Derived.Test.YtomhmoedicajoaaCn2
import Derived.Test.YtomhmoedicajoaaCn4
namespace Go.Proofs.Ytomhmoedicajoaa
open Go.RowKit

/-- Two boxes' cells, and that the memory of w1 lies as it lay. -/
theorem keepR9 {w1 wA wB : World} {b d : Nat} {x0 x1 x2 x3 x4 y0 y1 y2 y3 y4 : Value} (hlt : b < w1.heap.size) (hlu : d < w1.heap.size) (h : wA.cell? ⟨b, 0, none⟩ = some x0 ∧ wA.cell? ⟨b, 1, none⟩ = some x1 ∧ wA.cell? ⟨b, 2, none⟩ = some x2 ∧ wA.cell? ⟨b, 3, none⟩ = some x3 ∧ wA.cell? ⟨b, 4, none⟩ = some x4 ∧ wA.cell? ⟨d, 0, none⟩ = some y0 ∧ wA.cell? ⟨d, 1, none⟩ = some y1 ∧ wA.cell? ⟨d, 2, none⟩ = some y2 ∧ wA.cell? ⟨d, 3, none⟩ = some y3 ∧ wA.cell? ⟨d, 4, none⟩ = some y4 ∧ Below w1.heap.size w1 wA) (hb : Below wA.heap.size wA wB) :
    wB.cell? ⟨b, 0, none⟩ = some x0 ∧ wB.cell? ⟨b, 1, none⟩ = some x1 ∧ wB.cell? ⟨b, 2, none⟩ = some x2 ∧ wB.cell? ⟨b, 3, none⟩ = some x3 ∧ wB.cell? ⟨b, 4, none⟩ = some x4 ∧ wB.cell? ⟨d, 0, none⟩ = some y0 ∧ wB.cell? ⟨d, 1, none⟩ = some y1 ∧ wB.cell? ⟨d, 2, none⟩ = some y2 ∧ wB.cell? ⟨d, 3, none⟩ = some y3 ∧ wB.cell? ⟨d, 4, none⟩ = some y4 ∧ Below w1.heap.size w1 wB := by
  obtain ⟨h0, h1, h2, h3, h4, h5, h6, h7, h8, h9, hz⟩ := h
  have hs := hz.size
  have hl : b < wA.heap.size := by omega
  have hu : d < wA.heap.size := by omega
  refine ⟨?_, ?_, ?_, ?_, ?_, ?_, ?_, ?_, ?_, ?_, hz.trans (hb.mono hs)⟩
  · exact (hb.cell (p := ⟨b, 0, none⟩) hl).trans h0
  · exact (hb.cell (p := ⟨b, 1, none⟩) hl).trans h1
  · exact (hb.cell (p := ⟨b, 2, none⟩) hl).trans h2
  · exact (hb.cell (p := ⟨b, 3, none⟩) hl).trans h3
  · exact (hb.cell (p := ⟨b, 4, none⟩) hl).trans h4
  · exact (hb.cell (p := ⟨d, 0, none⟩) hu).trans h5
  · exact (hb.cell (p := ⟨d, 1, none⟩) hu).trans h6
  · exact (hb.cell (p := ⟨d, 2, none⟩) hu).trans h7
  · exact (hb.cell (p := ⟨d, 3, none⟩) hu).trans h8
  · exact (hb.cell (p := ⟨d, 4, none⟩) hu).trans h9
theorem startR9 {w1 : World} {b d : Nat} {x0 x1 x2 x3 x4 y0 y1 y2 y3 y4 : Value} (h0 : w1.cell? ⟨b, 0, none⟩ = some x0) (h1 : w1.cell? ⟨b, 1, none⟩ = some x1) (h2 : w1.cell? ⟨b, 2, none⟩ = some x2) (h3 : w1.cell? ⟨b, 3, none⟩ = some x3) (h4 : w1.cell? ⟨b, 4, none⟩ = some x4) (h5 : w1.cell? ⟨d, 0, none⟩ = some y0) (h6 : w1.cell? ⟨d, 1, none⟩ = some y1) (h7 : w1.cell? ⟨d, 2, none⟩ = some y2) (h8 : w1.cell? ⟨d, 3, none⟩ = some y3) (h9 : w1.cell? ⟨d, 4, none⟩ = some y4) :
    w1.drew.cell? ⟨b, 0, none⟩ = some x0 ∧ w1.drew.cell? ⟨b, 1, none⟩ = some x1 ∧ w1.drew.cell? ⟨b, 2, none⟩ = some x2 ∧ w1.drew.cell? ⟨b, 3, none⟩ = some x3 ∧ w1.drew.cell? ⟨b, 4, none⟩ = some x4 ∧ w1.drew.cell? ⟨d, 0, none⟩ = some y0 ∧ w1.drew.cell? ⟨d, 1, none⟩ = some y1 ∧ w1.drew.cell? ⟨d, 2, none⟩ = some y2 ∧ w1.drew.cell? ⟨d, 3, none⟩ = some y3 ∧ w1.drew.cell? ⟨d, 4, none⟩ = some y4 ∧ Below w1.heap.size w1 w1.drew :=
  ⟨h0, h1, h2, h3, h4, h5, h6, h7, h8, h9, ⟨rfl, rfl, rfl, Nat.le_refl _, fun _ _ => rfl⟩⟩
theorem heldR9 {w1 wA : World} {b d : Nat} {x0 x1 x2 x3 x4 y0 y1 y2 y3 y4 : Value} (h : wA.cell? ⟨b, 0, none⟩ = some x0 ∧ wA.cell? ⟨b, 1, none⟩ = some x1 ∧ wA.cell? ⟨b, 2, none⟩ = some x2 ∧ wA.cell? ⟨b, 3, none⟩ = some x3 ∧ wA.cell? ⟨b, 4, none⟩ = some x4 ∧ wA.cell? ⟨d, 0, none⟩ = some y0 ∧ wA.cell? ⟨d, 1, none⟩ = some y1 ∧ wA.cell? ⟨d, 2, none⟩ = some y2 ∧ wA.cell? ⟨d, 3, none⟩ = some y3 ∧ wA.cell? ⟨d, 4, none⟩ = some y4 ∧ Below w1.heap.size w1 wA) : Below w1.heap.size w1 wA := h.2.2.2.2.2.2.2.2.2.2

/-- Two replies' boxes, and old memory as it was. -/
def Two9 (w0 w : World) (b d : Nat) (r s : Rep9) (u v : Value) : Prop := RepAt w b r u ∧ RepAt w d s v ∧ Below w0.heap.size w0 w
theorem Two9.new (w : World) (r s : Rep9) (u v : Value) : Two9 w ((w.alloc (.cells (r.arr u) 39)).alloc (.cells (s.arr v) 39)) w.heap.size (w.heap.size + 1) r s u v := by
  have h1 := RepAt.new w r u
  have hb1 : Below w.heap.size w (w.alloc (.cells (r.arr u) 39)) := (Below.refl _ _).alloc (Nat.le_refl _) _
  have hz : (w.alloc (.cells (r.arr u) 39)).heap.size = w.heap.size + 1 := by simp
  have h2 := RepAt.new (w.alloc (.cells (r.arr u) 39)) s v
  have hb2 : Below (w.alloc (.cells (r.arr u) 39)).heap.size (w.alloc (.cells (r.arr u) 39)) ((w.alloc (.cells (r.arr u) 39)).alloc (.cells (s.arr v) 39)) := (Below.refl _ _).alloc (Nat.le_refl _) _
  have h1' := h1.below hb2
  have hb3 := hb1.trans (hb2.mono hb1.size)
  rw [hz] at h2
  exact ⟨h1', h2, hb3⟩
theorem Two9.below {w0 w w' : World} {b d : Nat} {r s : Rep9} {u v : Value} (h : Two9 w0 w b d r s u v) (hb : Below w.heap.size w w') : Two9 w0 w' b d r s u v := ⟨h.1.below hb, h.2.1.below hb, h.2.2.trans (hb.mono h.2.2.size)⟩

set_option maxRecDepth 100000 in
set_option maxHeartbeats 2000000 in
theorem sames_walk (r : Rep9) (p : Option Addr) (n c : Nat) (s : Rep9) (q : Option Addr) (m d : Nat) (w : World) (hr : FitsR9 w r (.slice p n c)) (hs : FitsR9 w s (.slice q m d)) :
    Calls Try.prog 8 #[.agg (r.arr (.slice p n c)), .agg (s.arr (.slice q m d))] w fun e w' => e = .returned (.bool true) ∧ Below w.heap.size w w' := by
  have hT0 := Two9.new w r s (.slice p n c) (.slice q m d)
  have fit : ∀ W, Below w.heap.size w W → FitsR9 W r (.slice p n c) ∧ FitsR9 W s (.slice q m d) := fun W h => ⟨⟨hr.1.below h (Nat.le_refl _), hr.2⟩, ⟨hs.1.below h (Nat.le_refl _), hs.2⟩⟩
  have kf1 := fun W (h : Below w.heap.size w W) => fewR_any r p n c W (fit W h).1
  have kf2 := fun W (h : Below w.heap.size w W) => fewR_any s q m d W (fit W h).2
  have k9 := fun w => lives_any w
  have HS1 : Hid (FewR r → ∀ W, Below w.heap.size w W → Calls Try.prog 25 #[.agg (r.arr (.slice p n c))] W fun e w' => ∃ v, e = .returned v ∧ Owns w' W.heap.size 5 v (repB r) ∧ Below W.heap.size W w') := fun hf W h => replyB_any r p n c W (fit W h).1.1 hf
  have HS2 : Hid (FewR s → ∀ W, Below w.heap.size w W → Calls Try.prog 25 #[.agg (s.arr (.slice q m d))] W fun e w' => ∃ v, e = .returned v ∧ Owns w' W.heap.size 5 v (repB s) ∧ Below W.heap.size W w') := fun hf W h => replyB_any s q m d W (fit W h).2.1 hf
  have HQ : Hid (FewR r → FewR s → (repB r == repB s) = sameR9 r s) := fun h1 h2 => repB_beq r s (fewR_short h1 hr.2.2.2.2.1 hr.2.2.2.2.2) (fewR_short h2 hs.2.2.2.2.1 hs.2.2.2.2.2)
  have HM1 : Hid (FewR r → FewR s → ∀ W, Below w.heap.size w W → Calls Try.prog 28 #[.agg (r.arr (.slice p n c)), .agg (s.arr (.slice q m d))] W fun e w' => e = .returned (.bool (sameR9 r s)) ∧ Below W.heap.size W w') := fun h1 h2 W h => sameR_any r s p q n m c d W (fit W h).1.1 (fit W h).2.1 (by have := fewR_len h1; omega) (by have := fewR_len h2; omega)
  have HM2 : Hid (FewR r → FewR s → ∀ W, Below w.heap.size w W → Calls Try.prog 28 #[.agg (s.arr (.slice q m d)), .agg (r.arr (.slice p n c))] W fun e w' => e = .returned (.bool (sameR9 r s)) ∧ Below W.heap.size W w') := fun h1 h2 W h => by
    have := sameR_any s r q p m n d c W (fit W h).2.1 (fit W h).1.1 (by have := fewR_len h2; omega) (by have := fewR_len h1; omega)
    rw [sameR9_comm s r] at this
    exact this
  have HM3 : Hid (FewR r → ∀ W, Below w.heap.size w W → Calls Try.prog 28 #[.agg (r.arr (.slice p n c)), .agg (r.arr (.slice p n c))] W fun e w' => e = .returned (.bool true) ∧ Below W.heap.size W w') := fun h1 W h => by
    have := sameR_any r r p p n n c c W (fit W h).1.1 (fit W h).1.1 (by have := fewR_len h1; omega) (by have := fewR_len h1; omega)
    rwa [sameR9_self] at this
  have HB1 : Hid (IsB (repB r)) := repB_isB r
  have HB2 : Hid (IsB (repB s)) := repB_isB s
  clear fit hr hs
  generalize repB r = xs at *
  generalize repB s = ys at *
  generalize sameR9 r s = is at *
  generalize hFr : FewR r = Fr at *
  generalize hFs : FewR s = Fs at *
  clear hFr hFs
  obtain ⟨e1, f1, v1, s1, l1⟩ := r
  obtain ⟨e2, f2, v2, s2, l2⟩ := s
  unfold Rep9.arr at *
  dsimp only at *
  go_enter Try.func8, Try.ntmps8
  go_wp2_with fail
  have hk1 := kf1 _ hT0.2.2
  generalize (w.alloc (.cells #[.int .i64 e1, .bool f1, .string v1, .int .i64 s1, .slice p n c] 39)).alloc (.cells #[.int .i64 e2, .bool f2, .string v2, .int .i64 s2, .slice q m d] 39) = W0 at *
  generalize hx1 : w.heap.size + 1 = d1 at *
  clear hx1
  refine hk1.mono ?_
  rintro e w1 ⟨g1, rfl, hg1, hb1⟩
  have hT1 := hT0.below hb1
  obtain ⟨c0, c1, c2, c3, c4⟩ := hT1.1.cells
  obtain ⟨d0, d1', d2, d3, d4⟩ := hT1.2.1.cells
  dsimp only at c0 c1 c2 c3 c4 d0 d1' d2 d3 d4
  have hlt1 := hT1.1.lt
  have hlu1 := hT1.2.1.lt
  clear hk1 hT0 hb1 kf1
  cases g1 with
  | false =>
    go_wp2_with fail
    refine (k9 _).mono ?_
    rintro e w9 ⟨rfl, hb9⟩
    have hT9 := hT1.below hb9
    go_wp2
    go_ret
    exact ⟨rfl, hT9.2.2⟩
  | true =>
    have hk2 := kf2 _ hT1.2.2
    go_wp2_with fail
    refine hk2.mono ?_
    rintro e w2 ⟨g2, rfl, hg2, hb2⟩
    have hT2 := hT1.below hb2
    clear c0 c1 c2 c3 c4 d0 d1' d2 d3 d4 hk2 hlt1 hlu1 kf2
    obtain ⟨c0, c1, c2, c3, c4⟩ := hT2.1.cells
    obtain ⟨d0, d1', d2, d3, d4⟩ := hT2.2.1.cells
    dsimp only at c0 c1 c2 c3 c4 d0 d1' d2 d3 d4
    have hlt2 := hT2.1.lt
    have hlu2 := hT2.2.1.lt
    clear hT1 hb2
    cases g2 with
    | false =>
      go_wp2_with fail
      refine (k9 _).mono ?_
      rintro e w9 ⟨rfl, hb9⟩
      have hT9 := hT2.below hb9
      go_wp2
      go_ret
      exact ⟨rfl, hT9.2.2⟩
    | true =>
      have hFr := hg1 (by trivial)
      have hFs := hg2 (by trivial)
      have m1 := HM1.out hFr hFs w2 hT2.2.2
      go_wp2_with fail
      refine m1.mono ?_
      rintro e w3 ⟨rfl, hb3⟩
      have hT3 := hT2.below hb3
      clear c0 c1 c2 c3 c4 d0 d1' d2 d3 d4 hlt2 hlu2 hT2 hb3 m1
      obtain ⟨c0, c1, c2, c3, c4⟩ := hT3.1.cells
      obtain ⟨d0, d1', d2, d3, d4⟩ := hT3.2.1.cells
      dsimp only at c0 c1 c2 c3 c4 d0 d1' d2 d3 d4
      have hlt3 := hT3.1.lt
      have hlu3 := hT3.2.1.lt
      have s0 := startR9 c0 c1 c2 c3 c4 d0 d1' d2 d3 d4
      have up : ∀ W, Below w3.heap.size w3 W → Below w.heap.size w W := fun W h => hT3.2.2.trans (h.mono hT3.2.2.size)
      have m2 := fun W (h : Below w3.heap.size w3 W) => HM2.out hFr hFs W (up W h)
      have m3 := fun W (h : Below w3.heap.size w3 W) => HM3.out hFr W (up W h)
      have r1 := fun W (h : Below w3.heap.size w3 W) => HS1.out hFr W (up W h)
      have r2 := fun W (h : Below w3.heap.size w3 W) => HS2.out hFs W (up W h)
      have hq := HQ.out hFr hFs
      have hsm : ∀ (x y : Value) (W : World), Has W x xs → Has W y ys → Calls Try.prog 17 #[x, y] W fun e w' => e = .returned (.bool is) ∧ w' = W := fun x y W hx hy => by
        have := same_any x y xs ys W hx hy HB1.out HB2.out
        rwa [hq] at this
      clear c0 c1 c2 c3 c4 d0 d1' d2 d3 d4 up hq HM1 HM2 HM3 HS1 HS2 HQ hg1 hg2
      generalize w.heap.size = b1 at *
      go_wp2_with fail
      go_region_held3 (fun w' => w'.cell? ⟨b1, 0, none⟩ = some (.int .i64 e1) ∧ w'.cell? ⟨b1, 1, none⟩ = some (.bool f1) ∧ w'.cell? ⟨b1, 2, none⟩ = some (.string v1) ∧ w'.cell? ⟨b1, 3, none⟩ = some (.int .i64 s1) ∧ w'.cell? ⟨b1, 4, none⟩ = some (.slice p n c) ∧ w'.cell? ⟨d1, 0, none⟩ = some (.int .i64 e2) ∧ w'.cell? ⟨d1, 1, none⟩ = some (.bool f2) ∧ w'.cell? ⟨d1, 2, none⟩ = some (.string v2) ∧ w'.cell? ⟨d1, 3, none⟩ = some (.int .i64 s2) ∧ w'.cell? ⟨d1, 4, none⟩ = some (.slice q m d) ∧ Below w3.heap.size w3 w')
        (first | exact s0 | assumption | exact keepR9 hlt3 hlu3 (by assumption) (by assumption))
        (first
          | (go_at_call 28; with_reducible refine Calls.mono (m2 _ (heldR9 (by assumption))) ?_; rintro e w4 ⟨rfl, hb4⟩)
          | (go_at_call 28; with_reducible refine Calls.mono (m3 _ (heldR9 (by assumption))) ?_; rintro e w5 ⟨rfl, hb5⟩)
          | (go_at_call 25; (with_reducible refine Calls.mono (r1 _ (heldR9 (by assumption))) ?_); rintro e w6 ⟨u6, rfl, ho6, hb6⟩; obtain ⟨p6, q6, rfl, -, -, -⟩ := id ho6.has; replace ho6 := ho6.has)
          | (go_at_call 25; (with_reducible refine Calls.mono (r2 _ (heldR9 (by assumption))) ?_); rintro e w7 ⟨u7, rfl, ho7, hb7⟩; obtain ⟨p7, q7, rfl, -, -, -⟩ := id ho7.has; replace ho7 := ho7.has)
          | (go_at_call 17; refine same_mono (hsm _ _ _ (ho6.below hb7 (Nat.le_refl _)) ho7) ?_)
          | (go_at_call 10; refine Calls.mono (k9 _) ?_; rintro e w8 ⟨rfl, hb8⟩))
      all_goals
        go_wp2
        go_ret
        exact ⟨rfl, (hT3.below (heldR9 (by assumption))).2.2⟩
end Go.Proofs.Ytomhmoedicajoaa
