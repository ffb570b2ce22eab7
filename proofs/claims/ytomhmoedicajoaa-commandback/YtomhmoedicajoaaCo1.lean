/-
  The walk of CommandBack.
-/
import Derived.Test.YtomhmoedicajoaaCn9
import Derived.Test.YtomhmoedicajoaaCn5
import Derived.Test.YtomhmoedicajoaaCmW
namespace Go.Proofs.Ytomhmoedicajoaa
open Go.RowKit

/-- A command's box and a reply's, and old memory as it was. -/
def Bk9 (w0 w : World) (b d : Nat) (c : Cmd9) (r : Rep9) (u : Value) : Prop := CmdAt w b c ∧ RepAt w d r u ∧ Below w0.heap.size w0 w
theorem Bk9.new (w : World) (c : Cmd9) (r : Rep9) (u : Value) : Bk9 w ((w.alloc (.cells c.arr 23)).alloc (.cells (r.arr u) 39)) w.heap.size (w.heap.size + 1) c r u := by
  have h1 := CmdAt.new w c
  have hb1 : Below w.heap.size w (w.alloc (.cells c.arr 23)) := (Below.refl _ _).alloc (Nat.le_refl _) _
  have hz : (w.alloc (.cells c.arr 23)).heap.size = w.heap.size + 1 := by simp
  have h2 := RepAt.new (w.alloc (.cells c.arr 23)) r u
  have hb2 : Below (w.alloc (.cells c.arr 23)).heap.size (w.alloc (.cells c.arr 23)) ((w.alloc (.cells c.arr 23)).alloc (.cells (r.arr u) 39)) := (Below.refl _ _).alloc (Nat.le_refl _) _
  have h1' := h1.below hb2
  have hb3 := hb1.trans (hb2.mono hb1.size)
  rw [hz] at h2
  exact ⟨h1', h2, hb3⟩
theorem Bk9.below {w0 w w' : World} {b d : Nat} {c : Cmd9} {r : Rep9} {u : Value} (h : Bk9 w0 w b d c r u) (hb : Below w.heap.size w w') : Bk9 w0 w' b d c r u := ⟨h.1.below hb, h.2.1.below hb, h.2.2.trans (hb.mono h.2.2.size)⟩
theorem Bk9.more {w0 w : World} {b d : Nat} {c : Cmd9} {r : Rep9} {u : Value} (h : Bk9 w0 w b d c r u) (x : Obj) : Bk9 w0 (w.alloc x) b d c r u := h.below ((Below.refl _ _).alloc (Nat.le_refl _) x)
theorem repB_len {r : Rep9} (h : FewR r) : (repB r).length ≤ 20000000 := by
  have h1 := fewR_val h
  have h2 := fewR_len h
  have h3 := pairsB_length (m := 10019) (l := r.l) fun p hp => by have := fewR_size h hp; omega
  have h4 := Nat.mul_le_mul_right (2 * 10019 + 18) h2
  have h5 := numB_le (r.l.length : Int)
  have h6 := textB_length r.val
  have h7 := zigB_le r.err
  have h8 := zigB_le r.ses
  unfold repB expB
  simp only [List.length_append, List.length_cons, List.length_nil]
  omega

set_option maxRecDepth 100000 in
set_option maxHeartbeats 3000000 in
theorem back_walk (c : Cmd9) (r : Rep9) (p : Option Addr) (n k : Nat) (w : World) (hf : Fits9 c) (hr : FitsR9 w r (.slice p n k)) :
    Calls Try.prog 6 #[.agg c.arr, .agg (r.arr (.slice p n k))] w fun e w' => e = .returned (.bool true) ∧ Below w.heap.size w w' := by
  obtain ⟨i0, hi, hz0, hz1, hz2⟩ := info_parts info8c
  have hT0 := Bk9.new w c r (.slice p n k)
  have fit : ∀ W, Below w.heap.size w W → FitsR9 W r (.slice p n k) := fun W h => ⟨hr.1.below h (Nat.le_refl _), hr.2⟩
  have k0 := fun w => great_any c w hf.1 hf.2.1 hf.2.2.1 hf.2.2.2.1
  have kf := fun W (h : Below w.heap.size w W) => fewR_any r p n k W (fit W h)
  have k9 := fun w => lives_any w
  have kg := fun w => good_any c w
  have HS : Hid (Short9 c) := ⟨by have := hf.1; omega, by have := hf.2.1; omega, by have := hf.2.2.1; omega, by have := hf.2.2.2.1; omega, hf.2.2.2.2.1, hf.2.2.2.2.2.1, hf.2.2.2.2.2.2.1, hf.2.2.2.2.2.2.2⟩
  have HRb := readC9_back c HS.out
  have HQ : Hid (FewR r → ShortR9 r) := fun h => fewR_short h hr.2.2.2.2.1 hr.2.2.2.2.2
  have HB1 : Hid (IsB (cmdB c)) := cmdB_isB c
  have HB2 : Hid (IsB (repB r)) := repB_isB r
  by_cases hg : 5000 < c.key.size + c.old.size + c.val.size + c.unt.size
  · rw [decide_eq_true hg] at k0
    clear hg hf
    obtain ⟨kk, s, q, key, old, val, unt, lim⟩ := c
    obtain ⟨e1, f1, v1, s1, l1⟩ := r
    unfold Cmd9.arr Rep9.arr at *
    dsimp only at *
    go_enter Try.func6, Try.ntmps6
    go_wp2_with fail
    refine (k0 _).mono ?_
    rintro e w1 ⟨rfl, hb1⟩
    have hT1 := hT0.below hb1
    clear hb1 hT0
    go_wp2_with fail
    refine (k9 _).mono ?_
    rintro e w2 ⟨rfl, hb2⟩
    have hT2 := hT1.below hb2
    go_wp2
    go_ret
    exact ⟨rfl, hT2.2.2⟩
  · rw [decide_eq_false hg] at k0
    have hsz : c.key.size ≤ 5000 ∧ c.old.size ≤ 5000 ∧ c.val.size ≤ 5000 ∧ c.unt.size ≤ 5000 := by omega
    have kb := fun w => bytes_any c w hsz
    have hcl := cmdB_length c
    have kr := fun (x : Value) (W : World) (h : Has W x (cmdB c)) => readC_any x (cmdB c) W h HB1.out (by omega)
    obtain ⟨D, E, hDE, hDc⟩ : ∃ (D : Cmd9) (E : Int), readC9 (cmdB c) = (D, E) ∧ ((good9 c = true ∧ E = 0 ∧ same9 D c = true) ∨ (good9 c = false ∧ E = 8)) := by
      cases hgd : good9 c with
      | true => exact ⟨c, 0, by rw [HRb, hgd]; rfl, .inl ⟨rfl, rfl, same9_self c⟩⟩
      | false => exact ⟨zeroC9, 8, by rw [HRb, hgd]; rfl, .inr ⟨rfl, rfl⟩⟩
    rw [hDE] at kr
    have HDc : Hid ((good9 c = true ∧ E = 0 ∧ same9 D c = true) ∨ (good9 c = false ∧ E = 8)) := hDc
    clear hDE hDc
    generalize good9 c = gd at *
    have HM : ∀ W, Below w.heap.size w W → FewR r → ∀ q m d, HasP W (.slice q m d) r.l → Calls Try.prog 28 #[.agg (r.arr (.slice p n k)), .agg (r.arr (.slice q m d))] W fun e w' => e = .returned (.bool true) ∧ Below W.heap.size W w' := fun W h hw q m d hP => by
      have := sameR_any r r p q n m k d W (fit W h).1 hP (by have := fewR_len hw; omega) (by have := fewR_len hw; omega)
      rwa [sameR9_self] at this
    have HN : ∀ W, Below w.heap.size w W → FewR r → ∀ q m d, HasP W (.slice q m d) r.l → Calls Try.prog 27 #[.agg (r.arr (.slice p n k)), .agg (r.arr (.slice q m d))] W fun e w' => e = .returned (.bool true) ∧ Below W.heap.size W w' := fun W h hw q m d hP => by
      have := rsameR_any r r p q n m k d W (fit W h).1 hP (by have := fewR_len hw; omega) (by have := fewR_len hw; omega)
      rwa [sameR9_self] at this
    have HO : FewR r → ∀ W, Below w.heap.size w W → Calls Try.prog 25 #[.agg (r.arr (.slice p n k))] W fun e w' => ∃ v, e = .returned v ∧ Owns w' W.heap.size 5 v (repB r) ∧ Below W.heap.size W w' := fun hw W h => replyB_any r p n k W (fit W h).1 hw
    have HR1 : FewR r → ∀ (x : Value) (W : World), Has W x (repB r) → Calls Try.prog 23 #[x] W fun e w' => ∃ (a : Option Addr) (n k : Nat), e = .returned (.tuple #[.agg (r.arr (.slice a n k)), .int .i64 0]) ∧ HasP w' (.slice a n k) r.l ∧ Below W.heap.size W w' := fun hw x W h => by
      have := readR_any x (repB r) W h HB2.out (by have := repB_len hw; omega)
      rwa [readR9_back r (HQ.out hw)] at this
    have HR2 : FewR r → ∀ (x : Value) (W : World), Has W x (repB r ++ [0]) → Calls Try.prog 23 #[x] W fun e w' => ∃ (a : Option Addr) (n k : Nat), e = .returned (.tuple #[.agg (zeroR9.arr (.slice a n k)), .int .i64 8]) ∧ HasP w' (.slice a n k) zeroR9.l ∧ Below W.heap.size W w' := fun hw x W h => by
      have := readR_any x (repB r ++ [0]) W h (IsB.append HB2.out (IsB.cons (by omega) IsB.nil)) (by rw [List.length_append, List.length_singleton]; have := repB_len hw; omega)
      rwa [readR9_more r 0 (HQ.out hw)] at this
    have HL : Hid (FewR r → (repB r).length ≤ 20000000) := repB_len
    have HM' : Hid _ := HM
    have HN' : Hid _ := HN
    have HO' : Hid _ := HO
    have HR1' : Hid _ := HR1
    have HR2' : Hid _ := HR2
    clear HM HN HO HR1 HR2 hg hf hsz fit HRb HS HQ hcl
    generalize cmdB c = cb at *
    generalize repB r = rb at *
    generalize hFr : FewR r = Fr at *
    clear hFr
    have hne := neqC
    have heq := eqlC
    have hgu := grdC
    obtain ⟨kk, s, q, key, old, val, unt, lim⟩ := c
    obtain ⟨xk, xs, xq, xkey, xold, xval, xunt, xlim⟩ := D
    obtain ⟨e1, f1, v1, s1, l1⟩ := r
    unfold Cmd9.arr Rep9.arr at *
    dsimp only at *
    go_enter Try.func6, Try.ntmps6
    go_wp2_with fail
    refine (k0 _).mono ?_
    rintro e w1 ⟨rfl, hb1⟩
    have hT1 := hT0.below hb1
    obtain ⟨c0, c1, c2, c3, c4, c5, c6, c7⟩ := hT1.1.cells
    obtain ⟨d0, d1, d2, d3, d4⟩ := hT1.2.1.cells
    dsimp only at c0 c1 c2 c3 c4 c5 c6 c7 d0 d1 d2 d3 d4
    have hk1 := kf _ hT1.2.2
    clear hb1 hT0 k0 kf
    generalize hdd : w.heap.size + 1 = db at *
    clear hdd
    go_wp2_with fail
    refine hk1.mono ?_
    rintro e w2 ⟨g2, rfl, hg2, hb2⟩
    have hT2 := hT1.below hb2
    clear c0 c1 c2 c3 c4 c5 c6 c7 d0 d1 d2 d3 d4 hk1 hT1 hb2
    cases g2 with
    | false =>
      go_wp2_with fail
      refine (k9 _).mono ?_
      rintro e w9 ⟨rfl, hb9⟩
      have hT9 := hT2.below hb9
      go_wp2
      go_ret
      exact ⟨rfl, hT9.2.2⟩
    | true =>
      have hFr := hg2 (by trivial)
      obtain ⟨c0, c1, c2, c3, c4, c5, c6, c7⟩ := hT2.1.cells
      obtain ⟨d0, d1, d2, d3, d4⟩ := hT2.2.1.cells
      dsimp only at c0 c1 c2 c3 c4 c5 c6 c7 d0 d1 d2 d3 d4
      go_wp2_with fail
      refine (kb _).mono ?_
      rintro e w3 ⟨v3, rfl, ho3, hb3⟩
      have hT3 := hT2.below hb3
      have hk3 := kr v3 w3 ho3.has
      clear c0 c1 c2 c3 c4 c5 c6 c7 d0 d1 d2 d3 d4 hT2 hb3 ho3 kr kb
      obtain ⟨c0, c1, c2, c3, c4, c5, c6, c7⟩ := hT3.1.cells
      obtain ⟨d0, d1, d2, d3, d4⟩ := hT3.2.1.cells
      dsimp only at c0 c1 c2 c3 c4 c5 c6 c7 d0 d1 d2 d3 d4
      go_wp2_with fail
      refine hk3.mono ?_
      rintro e w4 ⟨rfl, hb4⟩
      have hT4 := hT3.below hb4
      clear c0 c1 c2 c3 c4 c5 c6 c7 d0 d1 d2 d3 d4 hT3 hb4 hk3
      obtain ⟨c0, c1, c2, c3, c4, c5, c6, c7⟩ := hT4.1.cells
      obtain ⟨d0, d1, d2, d3, d4⟩ := hT4.2.1.cells
      dsimp only at c0 c1 c2 c3 c4 c5 c6 c7 d0 d1 d2 d3 d4
      have hltb := hT4.1.lt
      have hltd := hT4.2.1.lt
      have hD5 := CmdAt.new w4 ⟨xk, xs, xq, xkey, xold, xval, xunt, xlim⟩
      have hT5 := hT4.more (.cells (Cmd9.mk xk xs xq xkey xold xval xunt xlim).arr 23)
      unfold Cmd9.arr at hD5 hT5
      dsimp only at hD5 hT5
      go_wp2_with fail
      generalize w4.alloc (.cells #[.int .i64 xk, .int .i64 xs, .int .i64 xq, .string xkey, .string xold, .string xval, .string xunt, .int .i64 xlim] 23) = x5 at *
      generalize w4.heap.size = bx at *
      refine (kg _).mono ?_
      rintro e w6 ⟨rfl, hb6⟩
      have hT6 := hT5.below hb6
      have hD6 := CmdAt.below (c := ⟨xk, xs, xq, xkey, xold, xval, xunt, xlim⟩) hD5 hb6
      clear c0 c1 c2 c3 c4 c5 c6 c7 d0 d1 d2 d3 d4 hT5 hT4 hb6 hD5 kg
      obtain ⟨c0, c1, c2, c3, c4, c5, c6, c7⟩ := hT6.1.cells
      obtain ⟨d0, d1, d2, d3, d4⟩ := hT6.2.1.cells
      obtain ⟨m0, m1, m2, m3, m4, m5, m6, m7⟩ := hD6.cells
      dsimp only at c0 c1 c2 c3 c4 c5 c6 c7 d0 d1 d2 d3 d4 m0 m1 m2 m3 m4 m5 m6 m7
      have hk7 := HO'.out hFr w6 hT6.2.2
      rcases HDc.out with ⟨rfl, rfl, hsm⟩ | ⟨rfl, rfl⟩
      all_goals
        go_wp2_with fail
        refine hk7.mono ?_
        rintro e w7 ⟨v7, rfl, ho7, hb7⟩
        have hT7 := hT6.below hb7
        have hk8 := HR1'.out hFr v7 w7 ho7.has
        clear c0 c1 c2 c3 c4 c5 c6 c7 d0 d1 d2 d3 d4 m0 m1 m2 m3 m4 m5 m6 m7 hT6 hb7 ho7 hk7 hD6
        go_wp2_with fail
        refine hk8.mono ?_
        rintro e w8 ⟨a8, n8, k8, rfl, hP8, hb8⟩
        have hT8 := hT7.below hb8
        obtain ⟨d0, d1, d2, d3, d4⟩ := hT8.2.1.cells
        dsimp only at d0 d1 d2 d3 d4
        have hlt8 := hT8.2.1.lt
        have hD8 := RepAt.new w8 ⟨e1, f1, v1, s1, l1⟩ (.slice a8 n8 k8)
        have hT9 := hT8.more (.cells (Rep9.arr ⟨e1, f1, v1, s1, l1⟩ (.slice a8 n8 k8)) 39)
        have hP9 := hP8.below ((Below.refl w8.heap.size w8).alloc (Nat.le_refl _) (.cells (Rep9.arr ⟨e1, f1, v1, s1, l1⟩ (.slice a8 n8 k8)) 39)) (Nat.le_refl _)
        unfold Rep9.arr at hD8 hT9 hP9
        dsimp only at hD8 hT9 hP9
        have hk9 := HO'.out hFr _ hT9.2.2
        clear hk8 hT7 hT8 hP8 hb8
        go_wp2_with fail
        generalize w8.alloc (.cells #[.int .i64 e1, .bool f1, .string v1, .int .i64 s1, .slice a8 n8 k8] 39) = x9 at *
        generalize w8.heap.size = bs at *
        refine hk9.mono ?_
        rintro e y1 ⟨v10, rfl, ho10, hb10⟩
        have hL10 := HL.out hFr
        have hz10 := hb10.size
        clear hk9 d0 d1 d2 d3 d4
        go_wp2_with (at_builtin; refine ap_one _ rfl _ _ 28 rfl x9.heap.size 5 i0 Try.underlying28 hi hz0 hz1 hz2 _ _ _ rfl rfl (by exact ho10) (by omega) (by exact hz10) ?_; intro v11 y2 ho11 hb11)
        have hB11 : Below x9.heap.size x9 y2 := hb10.trans hb11
        have hU2 := hT9.below hB11
        have hD11 := RepAt.below (r := ⟨e1, f1, v1, s1, l1⟩) hD8 hB11
        have hP11 := hP9.below hB11 (Nat.le_refl _)
        have hk12 := HR2'.out hFr v11 y2 ho11.has
        clear hT9 hD8 hP9 hb10 hb11 ho10 ho11 hz10
        refine hk12.mono ?_
        rintro e y3 ⟨a3, n3, k3, rfl, -, hb3⟩
        have hU3 := hU2.below hb3
        have hD12 := hD11.below hb3
        have hP12 := hP11.below hb3 (Nat.le_refl _)
        have hba : Below y3.heap.size y3 (y3.alloc (.cells #[.int .i64 zeroR9.err, .bool zeroR9.found, .string zeroR9.val, .int .i64 zeroR9.ses, .slice a3 n3 k3] 39)) := (Below.refl _ _).alloc (Nat.le_refl _) _
        have hU4 := hU3.below hba
        have hD13 := hD12.below hba
        have hP13 := hP12.below hba (Nat.le_refl _)
        clear hU2 hD11 hP11 hk12 hb3 hU3 hD12 hP12 hba hB11
        go_upto_region 8 with fail
        generalize y3.alloc (.cells #[.int .i64 zeroR9.err, .bool zeroR9.found, .string zeroR9.val, .int .i64 zeroR9.ses, .slice a3 n3 k3] 39) = y4 at *
        obtain ⟨d0, d1, d2, d3, d4⟩ := hU4.2.1.cells
        obtain ⟨m0, m1, m2, m3, m4⟩ := hD13.cells
        dsimp only at d0 d1 d2 d3 d4 m0 m1 m2 m3 m4
        have hk13 := HN'.out y4 hU4.2.2 hFr a8 n8 k8 hP13
        go_wp2_with fail
        refine hk13.mono ?_
        rintro e y5 ⟨rfl, hb5⟩
        have hU5 := hU4.below hb5
        have hD14 := hD13.below hb5
        have hP14 := hP13.below hb5 (Nat.le_refl _)
        clear d0 d1 d2 d3 d4 m0 m1 m2 m3 m4 hk13 hU4 hD13 hP13 hb5
        obtain ⟨d0, d1, d2, d3, d4⟩ := hU5.2.1.cells
        obtain ⟨m0, m1, m2, m3, m4⟩ := hD14.cells
        dsimp only at d0 d1 d2 d3 d4 m0 m1 m2 m3 m4
        have hk14 := HM'.out y5 hU5.2.2 hFr a8 n8 k8 hP14
        go_wp2_with fail
        refine hk14.mono ?_
        rintro e y6 ⟨rfl, hb6⟩
        have hU6 := hU5.below hb6
        clear d0 d1 d2 d3 d4 m0 m1 m2 m3 m4 hk14 hU5 hD14 hP14 hb6
        go_wp2_with fail
        refine (k9 _).mono ?_
        rintro e y7 ⟨rfl, hb7⟩
        have hU7 := hU6.below hb7
        go_wp2
        go_ret
        exact ⟨rfl, hU7.2.2⟩
end Go.Proofs.Ytomhmoedicajoaa
