/-
  The walk of CommandReplies.
-/
import Derived.Test.YtomhmoedicajoaaCn9
import Derived.Test.YtomhmoedicajoaaCn5
namespace Go.Proofs.Ytomhmoedicajoaa
open Go.RowKit

theorem rdH9_len (xs : List Int) : (rdH9 xs).2.1.length ≤ xs.length := by
  rw [rdH9_is]
  unfold txt9 bool9 int9
  dsimp only
  exact Nat.le_trans (loseS_length _ _ _) (Nat.le_trans (loseS_length _ _ _) (Nat.le_trans (loseS_length _ _ _) (loseS_length _ _ _)))
theorem readR9_len (xs : List Int) : (readR9 xs).1.l.length ≤ xs.length := by
  have hd : pairsOk (rdH9 xs).2 = true ∨ pairsOk (rdH9 xs).2 = false := by cases pairsOk (rdH9 xs).2 <;> simp
  rcases hd with hp | hp
  · rw [readR9_is, hp, if_pos rfl]
    have hw : (pairsS (rdH9 xs).2).2.2 = false := by
      unfold pairsOk at hp
      simp only [Bool.and_eq_true, Bool.not_eq_true'] at hp
      exact hp.2
    have h1 := rdH9_len xs
    have h2 : (pairsS (rdH9 xs).2).1.length ≤ (rdH9 xs).2.1.length := by
      unfold pairsS at hw ⊢
      have h3 := rdN_less _ _ hw
      have h4 := loseS_length (rdH9 xs).2.1 (rdH9 xs).2.2 (getS (rdH9 xs).2.1).2
      rw [rdN_len]
      omega
    dsimp only [repOf9]
    omega
  · rw [readR9_is, hp, if_neg (by simp)]
    dsimp only [zeroR9, List.length_nil]
    omega

/-- Four boxes' cells, and that the memory of w1 lies as it lay. -/
theorem keepQ9 {w1 wA wB : World} {b d g h : Nat} {x0 x1 x2 x3 x4 x5 x6 x7 x8 x9 x10 x11 x12 x13 x14 x15 x16 x17 x18 x19 : Value} (l0 : b < w1.heap.size) (l1 : d < w1.heap.size) (l2 : g < w1.heap.size) (l3 : h < w1.heap.size) (hh : wA.cell? ⟨b, 0, none⟩ = some x0 ∧ wA.cell? ⟨b, 1, none⟩ = some x1 ∧ wA.cell? ⟨b, 2, none⟩ = some x2 ∧ wA.cell? ⟨b, 3, none⟩ = some x3 ∧ wA.cell? ⟨b, 4, none⟩ = some x4 ∧ wA.cell? ⟨d, 0, none⟩ = some x5 ∧ wA.cell? ⟨d, 1, none⟩ = some x6 ∧ wA.cell? ⟨d, 2, none⟩ = some x7 ∧ wA.cell? ⟨d, 3, none⟩ = some x8 ∧ wA.cell? ⟨d, 4, none⟩ = some x9 ∧ wA.cell? ⟨g, 0, none⟩ = some x10 ∧ wA.cell? ⟨g, 1, none⟩ = some x11 ∧ wA.cell? ⟨g, 2, none⟩ = some x12 ∧ wA.cell? ⟨g, 3, none⟩ = some x13 ∧ wA.cell? ⟨g, 4, none⟩ = some x14 ∧ wA.cell? ⟨h, 0, none⟩ = some x15 ∧ wA.cell? ⟨h, 1, none⟩ = some x16 ∧ wA.cell? ⟨h, 2, none⟩ = some x17 ∧ wA.cell? ⟨h, 3, none⟩ = some x18 ∧ wA.cell? ⟨h, 4, none⟩ = some x19 ∧ Below w1.heap.size w1 wA) (hb : Below wA.heap.size wA wB) :
    wB.cell? ⟨b, 0, none⟩ = some x0 ∧ wB.cell? ⟨b, 1, none⟩ = some x1 ∧ wB.cell? ⟨b, 2, none⟩ = some x2 ∧ wB.cell? ⟨b, 3, none⟩ = some x3 ∧ wB.cell? ⟨b, 4, none⟩ = some x4 ∧ wB.cell? ⟨d, 0, none⟩ = some x5 ∧ wB.cell? ⟨d, 1, none⟩ = some x6 ∧ wB.cell? ⟨d, 2, none⟩ = some x7 ∧ wB.cell? ⟨d, 3, none⟩ = some x8 ∧ wB.cell? ⟨d, 4, none⟩ = some x9 ∧ wB.cell? ⟨g, 0, none⟩ = some x10 ∧ wB.cell? ⟨g, 1, none⟩ = some x11 ∧ wB.cell? ⟨g, 2, none⟩ = some x12 ∧ wB.cell? ⟨g, 3, none⟩ = some x13 ∧ wB.cell? ⟨g, 4, none⟩ = some x14 ∧ wB.cell? ⟨h, 0, none⟩ = some x15 ∧ wB.cell? ⟨h, 1, none⟩ = some x16 ∧ wB.cell? ⟨h, 2, none⟩ = some x17 ∧ wB.cell? ⟨h, 3, none⟩ = some x18 ∧ wB.cell? ⟨h, 4, none⟩ = some x19 ∧ Below w1.heap.size w1 wB := by
  obtain ⟨h0, h1, h2, h3, h4, h5, h6, h7, h8, h9, h10, h11, h12, h13, h14, h15, h16, h17, h18, h19, hz⟩ := hh
  have hs := hz.size
  have m0 : b < wA.heap.size := by omega
  have m1 : d < wA.heap.size := by omega
  have m2 : g < wA.heap.size := by omega
  have m3 : h < wA.heap.size := by omega
  refine ⟨?_, ?_, ?_, ?_, ?_, ?_, ?_, ?_, ?_, ?_, ?_, ?_, ?_, ?_, ?_, ?_, ?_, ?_, ?_, ?_, hz.trans (hb.mono hs)⟩
  · exact (hb.cell (p := ⟨b, 0, none⟩) m0).trans h0
  · exact (hb.cell (p := ⟨b, 1, none⟩) m0).trans h1
  · exact (hb.cell (p := ⟨b, 2, none⟩) m0).trans h2
  · exact (hb.cell (p := ⟨b, 3, none⟩) m0).trans h3
  · exact (hb.cell (p := ⟨b, 4, none⟩) m0).trans h4
  · exact (hb.cell (p := ⟨d, 0, none⟩) m1).trans h5
  · exact (hb.cell (p := ⟨d, 1, none⟩) m1).trans h6
  · exact (hb.cell (p := ⟨d, 2, none⟩) m1).trans h7
  · exact (hb.cell (p := ⟨d, 3, none⟩) m1).trans h8
  · exact (hb.cell (p := ⟨d, 4, none⟩) m1).trans h9
  · exact (hb.cell (p := ⟨g, 0, none⟩) m2).trans h10
  · exact (hb.cell (p := ⟨g, 1, none⟩) m2).trans h11
  · exact (hb.cell (p := ⟨g, 2, none⟩) m2).trans h12
  · exact (hb.cell (p := ⟨g, 3, none⟩) m2).trans h13
  · exact (hb.cell (p := ⟨g, 4, none⟩) m2).trans h14
  · exact (hb.cell (p := ⟨h, 0, none⟩) m3).trans h15
  · exact (hb.cell (p := ⟨h, 1, none⟩) m3).trans h16
  · exact (hb.cell (p := ⟨h, 2, none⟩) m3).trans h17
  · exact (hb.cell (p := ⟨h, 3, none⟩) m3).trans h18
  · exact (hb.cell (p := ⟨h, 4, none⟩) m3).trans h19
theorem startQ9 {w1 : World} {b d g h : Nat} {x0 x1 x2 x3 x4 x5 x6 x7 x8 x9 x10 x11 x12 x13 x14 x15 x16 x17 x18 x19 : Value} (h0 : w1.cell? ⟨b, 0, none⟩ = some x0) (h1 : w1.cell? ⟨b, 1, none⟩ = some x1) (h2 : w1.cell? ⟨b, 2, none⟩ = some x2) (h3 : w1.cell? ⟨b, 3, none⟩ = some x3) (h4 : w1.cell? ⟨b, 4, none⟩ = some x4) (h5 : w1.cell? ⟨d, 0, none⟩ = some x5) (h6 : w1.cell? ⟨d, 1, none⟩ = some x6) (h7 : w1.cell? ⟨d, 2, none⟩ = some x7) (h8 : w1.cell? ⟨d, 3, none⟩ = some x8) (h9 : w1.cell? ⟨d, 4, none⟩ = some x9) (h10 : w1.cell? ⟨g, 0, none⟩ = some x10) (h11 : w1.cell? ⟨g, 1, none⟩ = some x11) (h12 : w1.cell? ⟨g, 2, none⟩ = some x12) (h13 : w1.cell? ⟨g, 3, none⟩ = some x13) (h14 : w1.cell? ⟨g, 4, none⟩ = some x14) (h15 : w1.cell? ⟨h, 0, none⟩ = some x15) (h16 : w1.cell? ⟨h, 1, none⟩ = some x16) (h17 : w1.cell? ⟨h, 2, none⟩ = some x17) (h18 : w1.cell? ⟨h, 3, none⟩ = some x18) (h19 : w1.cell? ⟨h, 4, none⟩ = some x19) :
    w1.drew.cell? ⟨b, 0, none⟩ = some x0 ∧ w1.drew.cell? ⟨b, 1, none⟩ = some x1 ∧ w1.drew.cell? ⟨b, 2, none⟩ = some x2 ∧ w1.drew.cell? ⟨b, 3, none⟩ = some x3 ∧ w1.drew.cell? ⟨b, 4, none⟩ = some x4 ∧ w1.drew.cell? ⟨d, 0, none⟩ = some x5 ∧ w1.drew.cell? ⟨d, 1, none⟩ = some x6 ∧ w1.drew.cell? ⟨d, 2, none⟩ = some x7 ∧ w1.drew.cell? ⟨d, 3, none⟩ = some x8 ∧ w1.drew.cell? ⟨d, 4, none⟩ = some x9 ∧ w1.drew.cell? ⟨g, 0, none⟩ = some x10 ∧ w1.drew.cell? ⟨g, 1, none⟩ = some x11 ∧ w1.drew.cell? ⟨g, 2, none⟩ = some x12 ∧ w1.drew.cell? ⟨g, 3, none⟩ = some x13 ∧ w1.drew.cell? ⟨g, 4, none⟩ = some x14 ∧ w1.drew.cell? ⟨h, 0, none⟩ = some x15 ∧ w1.drew.cell? ⟨h, 1, none⟩ = some x16 ∧ w1.drew.cell? ⟨h, 2, none⟩ = some x17 ∧ w1.drew.cell? ⟨h, 3, none⟩ = some x18 ∧ w1.drew.cell? ⟨h, 4, none⟩ = some x19 ∧ Below w1.heap.size w1 w1.drew :=
  ⟨h0, h1, h2, h3, h4, h5, h6, h7, h8, h9, h10, h11, h12, h13, h14, h15, h16, h17, h18, h19, ⟨rfl, rfl, rfl, Nat.le_refl _, fun _ _ => rfl⟩⟩
theorem heldQ9 {w1 wA : World} {b d g h : Nat} {x0 x1 x2 x3 x4 x5 x6 x7 x8 x9 x10 x11 x12 x13 x14 x15 x16 x17 x18 x19 : Value} (hh : wA.cell? ⟨b, 0, none⟩ = some x0 ∧ wA.cell? ⟨b, 1, none⟩ = some x1 ∧ wA.cell? ⟨b, 2, none⟩ = some x2 ∧ wA.cell? ⟨b, 3, none⟩ = some x3 ∧ wA.cell? ⟨b, 4, none⟩ = some x4 ∧ wA.cell? ⟨d, 0, none⟩ = some x5 ∧ wA.cell? ⟨d, 1, none⟩ = some x6 ∧ wA.cell? ⟨d, 2, none⟩ = some x7 ∧ wA.cell? ⟨d, 3, none⟩ = some x8 ∧ wA.cell? ⟨d, 4, none⟩ = some x9 ∧ wA.cell? ⟨g, 0, none⟩ = some x10 ∧ wA.cell? ⟨g, 1, none⟩ = some x11 ∧ wA.cell? ⟨g, 2, none⟩ = some x12 ∧ wA.cell? ⟨g, 3, none⟩ = some x13 ∧ wA.cell? ⟨g, 4, none⟩ = some x14 ∧ wA.cell? ⟨h, 0, none⟩ = some x15 ∧ wA.cell? ⟨h, 1, none⟩ = some x16 ∧ wA.cell? ⟨h, 2, none⟩ = some x17 ∧ wA.cell? ⟨h, 3, none⟩ = some x18 ∧ wA.cell? ⟨h, 4, none⟩ = some x19 ∧ Below w1.heap.size w1 wA) : Below w1.heap.size w1 wA := hh.2.2.2.2.2.2.2.2.2.2.2.2.2.2.2.2.2.2.2.2

set_option maxRecDepth 100000 in
set_option maxHeartbeats 3000000 in
theorem replies_walk (r : Rep9) (p : Option Addr) (n c : Nat) (s : Rep9) (q : Option Addr) (m d : Nat) (a : Option Addr) (nb cp : Nat) (xs : List Int) (hn : xs.length = nb) (w : World) (hr : FitsR9 w r (.slice p n c)) (hs : FitsR9 w s (.slice q m d)) (hv : Has w (.slice a nb cp) xs) (hB : IsB xs) (_hq : nb ≤ 140737488351232) :
    Calls Try.prog 5 #[.agg (r.arr (.slice p n c)), .agg (s.arr (.slice q m d)), .slice a nb cp] w fun e w' => e = .returned (.bool true) ∧ Below w.heap.size w w' := by
  have hT0 := Two9.new w r s (.slice p n c) (.slice q m d)
  have fit : ∀ W, Below w.heap.size w W → FitsR9 W r (.slice p n c) ∧ FitsR9 W s (.slice q m d) := fun W h => ⟨⟨hr.1.below h (Nat.le_refl _), hr.2⟩, ⟨hs.1.below h (Nat.le_refl _), hs.2⟩⟩
  have kf1 := fun W (h : Below w.heap.size w W) => fewR_any r p n c W (fit W h).1
  have kf2 := fun W (h : Below w.heap.size w W) => fewR_any s q m d W (fit W h).2
  have k9 := fun w => lives_any w
  have HS1 : Hid (FewR r → ∀ W, Below w.heap.size w W → Calls Try.prog 25 #[.agg (r.arr (.slice p n c))] W fun e w' => ∃ v, e = .returned v ∧ Owns w' W.heap.size 5 v (repB r) ∧ Below W.heap.size W w') := fun hf W h => replyB_any r p n c W (fit W h).1.1 hf
  have HS2 : Hid (FewR r → ∀ W, Below w.heap.size w W → Calls Try.prog 26 #[.agg (r.arr (.slice p n c))] W fun e w' => ∃ v, e = .returned v ∧ Owns w' W.heap.size 5 v (repB r) ∧ Below W.heap.size W w') := fun hf W h => rreplyB_any r p n c W (fit W h).1.1 hf
  have HM1 : Hid (FewR r → FewR s → ∀ W, Below w.heap.size w W → Calls Try.prog 28 #[.agg (r.arr (.slice p n c)), .agg (s.arr (.slice q m d))] W fun e w' => e = .returned (.bool (sameR9 r s)) ∧ Below W.heap.size W w') := fun h1 h2 W h => sameR_any r s p q n m c d W (fit W h).1.1 (fit W h).2.1 (by have := fewR_len h1; omega) (by have := fewR_len h2; omega)
  have HM2 : Hid (FewR r → FewR s → ∀ W, Below w.heap.size w W → Calls Try.prog 27 #[.agg (r.arr (.slice p n c)), .agg (s.arr (.slice q m d))] W fun e w' => e = .returned (.bool (sameR9 r s)) ∧ Below W.heap.size W w') := fun h1 h2 W h => rsameR_any r s p q n m c d W (fit W h).1.1 (fit W h).2.1 (by have := fewR_len h1; omega) (by have := fewR_len h2; omega)
  have HB1 : Hid (IsB (repB r)) := repB_isB r
  have HX1 : Hid (nb ≤ 10000 → ∀ W, Below w.heap.size w W → Calls Try.prog 23 #[.slice a nb cp] W fun e w' => ∃ (a : Option Addr) (n k : Nat), e = .returned (.tuple #[.agg ((readR9 xs).1.arr (.slice a n k)), .int .i64 (readR9 xs).2]) ∧ HasP w' (.slice a n k) (readR9 xs).1.l ∧ Below W.heap.size W w') := fun h W hW => readR_any _ xs W (hv.below hW (Nat.le_refl _)) hB (by omega)
  have HX2 : Hid (nb ≤ 10000 → ∀ W, Below w.heap.size w W → Calls Try.prog 24 #[.slice a nb cp] W fun e w' => ∃ (a : Option Addr) (n k : Nat), e = .returned (.tuple #[.agg ((readR9 xs).1.arr (.slice a n k)), .int .i64 (readR9 xs).2]) ∧ HasP w' (.slice a n k) (readR9 xs).1.l ∧ Below W.heap.size W w') := fun h W hW => rreadR_any _ xs W (hv.below hW (Nat.le_refl _)) hB (by omega)
  have HX3 : Hid (nb ≤ 10000 → ∀ W (a b : Option Addr) (n m k l : Nat), HasP W (.slice a n k) (readR9 xs).1.l → HasP W (.slice b m l) (readR9 xs).1.l → Calls Try.prog 27 #[.agg ((readR9 xs).1.arr (.slice a n k)), .agg ((readR9 xs).1.arr (.slice b m l))] W fun e w' => e = .returned (.bool true) ∧ Below W.heap.size W w') := fun h W a b n m k l h1 h2 => by
    have hl := readR9_len xs
    have := rsameR_any (readR9 xs).1 (readR9 xs).1 a b n m k l W h1 h2 (by omega) (by omega)
    rwa [sameR9_self] at this
  clear fit hr hs hv hB hn
  generalize repB r = ys at *
  generalize readR9 xs = RR at *
  generalize sameR9 r s = is at *
  generalize hFr : FewR r = Fr at *
  generalize hFs : FewR s = Fs at *
  clear hFr hFs
  obtain ⟨e1, f1, v1, s1, l1⟩ := r
  obtain ⟨e2, f2, v2, s2, l2⟩ := s
  obtain ⟨⟨e3, f3, v3, s3, l3⟩, er⟩ := RR
  unfold Rep9.arr at *
  dsimp only at *
  go_enter Try.func5, Try.ntmps5
  go_wp2_with fail
  have hk1 := kf1 _ hT0.2.2
  generalize (w.alloc (.cells #[.int .i64 e1, .bool f1, .string v1, .int .i64 s1, .slice p n c] 39)).alloc (.cells #[.int .i64 e2, .bool f2, .string v2, .int .i64 s2, .slice q m d] 39) = W0 at *
  generalize hx1 : w.heap.size + 1 = d1 at *
  clear hx1
  refine hk1.mono ?_
  rintro e w1 ⟨g1, rfl, hg1, hb1⟩
  have hT1 := hT0.below hb1
  obtain ⟨c0, c1, c2, c3, c4⟩ := hT1.1.cells
  obtain ⟨d0, d1', d2, d3, d4⟩ := hT1.2.1.cells
  dsimp only at c0 c1 c2 c3 c4 d0 d1' d2 d3 d4
  clear hk1 hT0 hb1 kf1
  cases g1 with
  | false =>
    go_wp2_with fail
    refine (k9 _).mono ?_
    rintro e w9 ⟨rfl, hb9⟩
    have hT9 := hT1.below hb9
    go_wp2
    go_ret
    exact ⟨rfl, hT9.2.2⟩
  | true =>
    have hk2 := kf2 _ hT1.2.2
    go_wp2_with fail
    refine hk2.mono ?_
    rintro e w2 ⟨g2, rfl, hg2, hb2⟩
    have hT2 := hT1.below hb2
    clear c0 c1 c2 c3 c4 d0 d1' d2 d3 d4 hk2 kf2 hT1 hb2
    cases g2 with
    | false =>
      go_wp2_with fail
      refine (k9 _).mono ?_
      rintro e w9 ⟨rfl, hb9⟩
      have hT9 := hT2.below hb9
      go_wp2
      go_ret
      exact ⟨rfl, hT9.2.2⟩
    | true =>
      have hFr := hg1 (by trivial)
      have hFs := hg2 (by trivial)
      by_cases hlong : 10000 < nb
      · go_wp2_with fail
        refine (k9 _).mono ?_
        rintro e w9 ⟨rfl, hb9⟩
        have hT9 := hT2.below hb9
        go_wp2
        go_ret
        exact ⟨rfl, hT9.2.2⟩
      · have hnl : nb ≤ 10000 := by omega
        have m1 := HX1.out hnl w2 hT2.2.2
        go_wp2_with fail
        refine m1.mono ?_
        rintro e w3 ⟨a4, n4, k4, rfl, hP3, hb3⟩
        have hT3 := hT2.below hb3
        have hba : Below w3.heap.size w3 (w3.alloc (.cells #[.int .i64 e3, .bool f3, .string v3, .int .i64 s3, .slice a4 n4 k4] 39)) := (Below.refl _ _).alloc (Nat.le_refl _) _
        have hT4 := hT3.below hba
        have hP4 := hP3.below hba (Nat.le_refl _)
        have hG4 : RepAt _ _ ⟨e3, f3, v3, s3, l3⟩ (.slice a4 n4 k4) := heap_alloc_new w3 (.cells #[.int .i64 e3, .bool f3, .string v3, .int .i64 s3, .slice a4 n4 k4] 39)
        have m2 := HX2.out hnl _ hT4.2.2
        clear m1 hT2 hT3 hP3 hb3 hba
        go_wp2_with fail
        generalize w3.alloc (.cells #[.int .i64 e3, .bool f3, .string v3, .int .i64 s3, .slice a4 n4 k4] 39) = x4 at *
        generalize hz3 : w3.heap.size = g1 at *
        clear hz3
        refine m2.mono ?_
        rintro e w5 ⟨a5, n5, k5, rfl, hP5, hb5⟩
        have hT5 := hT4.below hb5
        have hG5 := hG4.below hb5
        have hQ5 := hP4.below hb5 (Nat.le_refl _)
        have hba : Below w5.heap.size w5 (w5.alloc (.cells #[.int .i64 e3, .bool f3, .string v3, .int .i64 s3, .slice a5 n5 k5] 39)) := (Below.refl _ _).alloc (Nat.le_refl _) _
        have hT6 := hT5.below hba
        have hG6 := hG5.below hba
        have hQ6 := hQ5.below hba (Nat.le_refl _)
        have hP6 := hP5.below hba (Nat.le_refl _)
        have hH6 : RepAt _ _ ⟨e3, f3, v3, s3, l3⟩ (.slice a5 n5 k5) := heap_alloc_new w5 (.cells #[.int .i64 e3, .bool f3, .string v3, .int .i64 s3, .slice a5 n5 k5] 39)
        clear m2 hT4 hT5 hG4 hG5 hQ5 hP4 hP5 hb5 hba
        go_upto_region 5 with fail
        generalize w5.alloc (.cells #[.int .i64 e3, .bool f3, .string v3, .int .i64 s3, .slice a5 n5 k5] 39) = w6 at *
        generalize hz5 : w5.heap.size = h1 at *
        clear hz5
        obtain ⟨c0, c1, c2, c3, c4⟩ := hT6.1.cells
        obtain ⟨d0, d1', d2, d3, d4⟩ := hT6.2.1.cells
        obtain ⟨i0, i1, i2, i3, i4⟩ := hG6.cells
        obtain ⟨j0, j1, j2, j3, j4⟩ := hH6.cells
        dsimp only at c0 c1 c2 c3 c4 d0 d1' d2 d3 d4 i0 i1 i2 i3 i4 j0 j1 j2 j3 j4
        have lt0 := hT6.1.lt
        have lt1 := hT6.2.1.lt
        have lt2 := hG6.lt
        have lt3 := hH6.lt
        have s0 := startQ9 c0 c1 c2 c3 c4 d0 d1' d2 d3 d4 i0 i1 i2 i3 i4 j0 j1 j2 j3 j4
        have up : ∀ W, Below w6.heap.size w6 W → Below w.heap.size w W := fun W h => hT6.2.2.trans (h.mono hT6.2.2.size)
        have r1 := fun W (h : Below w6.heap.size w6 W) => HS1.out hFr W (up W h)
        have r2 := fun W (h : Below w6.heap.size w6 W) => HS2.out hFr W (up W h)
        have r3 := fun W (h : Below w6.heap.size w6 W) => HX3.out hnl W a4 a5 n4 n5 k4 k5 (hQ6.below h (Nat.le_refl _)) (hP6.below h (Nat.le_refl _))
        have r4 := fun W (h : Below w6.heap.size w6 W) => HM1.out hFr hFs W (up W h)
        have r5 := fun W (h : Below w6.heap.size w6 W) => HM2.out hFr hFs W (up W h)
        have hsm : ∀ (x y : Value) (W : World), Has W x ys → Has W y ys → Calls Try.prog 17 #[x, y] W fun e w' => e = .returned (.bool true) ∧ w' = W := fun x y W hx hy => by
          have := same_any x y ys ys W hx hy HB1.out HB1.out
          rwa [beq_self_eq_true] at this
        clear c0 c1 c2 c3 c4 d0 d1' d2 d3 d4 i0 i1 i2 i3 i4 j0 j1 j2 j3 j4 up HS1 HS2 HM1 HM2 HX1 HX2 HX3 hg1 hg2
        generalize w.heap.size = b1 at *
        go_wp2_with fail
        go_region_held3 (fun w' => w'.cell? ⟨b1, 0, none⟩ = some (.int .i64 e1) ∧ w'.cell? ⟨b1, 1, none⟩ = some (.bool f1) ∧ w'.cell? ⟨b1, 2, none⟩ = some (.string v1) ∧ w'.cell? ⟨b1, 3, none⟩ = some (.int .i64 s1) ∧ w'.cell? ⟨b1, 4, none⟩ = some (.slice p n c) ∧ w'.cell? ⟨d1, 0, none⟩ = some (.int .i64 e2) ∧ w'.cell? ⟨d1, 1, none⟩ = some (.bool f2) ∧ w'.cell? ⟨d1, 2, none⟩ = some (.string v2) ∧ w'.cell? ⟨d1, 3, none⟩ = some (.int .i64 s2) ∧ w'.cell? ⟨d1, 4, none⟩ = some (.slice q m d) ∧ w'.cell? ⟨g1, 0, none⟩ = some (.int .i64 e3) ∧ w'.cell? ⟨g1, 1, none⟩ = some (.bool f3) ∧ w'.cell? ⟨g1, 2, none⟩ = some (.string v3) ∧ w'.cell? ⟨g1, 3, none⟩ = some (.int .i64 s3) ∧ w'.cell? ⟨g1, 4, none⟩ = some (.slice a4 n4 k4) ∧ w'.cell? ⟨h1, 0, none⟩ = some (.int .i64 e3) ∧ w'.cell? ⟨h1, 1, none⟩ = some (.bool f3) ∧ w'.cell? ⟨h1, 2, none⟩ = some (.string v3) ∧ w'.cell? ⟨h1, 3, none⟩ = some (.int .i64 s3) ∧ w'.cell? ⟨h1, 4, none⟩ = some (.slice a5 n5 k5) ∧ Below w6.heap.size w6 w')
          (first | exact s0 | assumption | exact keepQ9 lt0 lt1 lt2 lt3 (by assumption) (by assumption))
          (first
            | (go_at_call 25; (with_reducible refine Calls.mono (r1 _ (heldQ9 (by assumption))) ?_); rintro e w7 ⟨u7, rfl, ho7, hb7⟩; obtain ⟨p7, q7, rfl, -, -, -⟩ := id ho7.has; replace ho7 := ho7.has)
            | (go_at_call 26; (with_reducible refine Calls.mono (r2 _ (heldQ9 (by assumption))) ?_); rintro e w8 ⟨u8, rfl, ho8, hb8⟩; obtain ⟨p8, q8, rfl, -, -, -⟩ := id ho8.has; replace ho8 := ho8.has)
            | (go_at_call 17; refine same_mono (hsm _ _ _ (ho7.below hb8 (Nat.le_refl _)) ho8) ?_)
            | (go_at_call 27; (with_reducible refine Calls.mono (r3 _ (heldQ9 (by assumption))) ?_); rintro e w9 ⟨rfl, hb9⟩)
            | (go_at_call 28; (with_reducible refine Calls.mono (r4 _ (heldQ9 (by assumption))) ?_); rintro e y1 ⟨rfl, hc1⟩)
            | (go_at_call 27; (with_reducible refine Calls.mono (r5 _ (heldQ9 (by assumption))) ?_); rintro e y2 ⟨rfl, hc2⟩)
            | (go_at_call 10; refine Calls.mono (k9 _) ?_; rintro e y3 ⟨rfl, hc3⟩))
        all_goals
          go_wp2
          go_ret
          exact ⟨rfl, (hT6.below (heldQ9 (by assumption))).2.2⟩
end Go.Proofs.Ytomhmoedicajoaa
