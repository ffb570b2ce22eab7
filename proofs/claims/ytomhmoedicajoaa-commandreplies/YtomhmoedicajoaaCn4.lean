/-
  Contracts: command.ReplyBytes, corbelref09.ReplyBytes.
-/
import Derived.Test.YtomhmoedicajoaaCn1
import Derived.Test.YtomhmoedicajoaaCn3
import Derived.BigQuiet
namespace Go.Proofs.Ytomhmoedicajoaa
open Go.RowKit

/-- A reply that lies in a block of its own. -/
def RepAt (w : World) (b : Nat) (r : Rep9) (v : Value) : Prop := w.heap[b]? = some (.cells (r.arr v) 39 (0, 0))
theorem RepAt.new (w : World) (r : Rep9) (v : Value) : RepAt (w.alloc (.cells (r.arr v) 39)) w.heap.size r v := heap_alloc_new w _
theorem RepAt.below {w w' : World} {b : Nat} {r : Rep9} {v : Value} (h : RepAt w b r v) (hb : Below w.heap.size w w') : RepAt w' b r v := (hb.block b (Array.getElem?_eq_some_iff.1 h).1).trans h
theorem RepAt.lt {w : World} {b : Nat} {r : Rep9} {v : Value} (h : RepAt w b r v) : b < w.heap.size := (Array.getElem?_eq_some_iff.1 h).1
theorem RepAt.cells {w : World} {b : Nat} {r : Rep9} {v : Value} (h : RepAt w b r v) :
    w.cell? ⟨b, 0, none⟩ = some (.int .i64 r.err) ∧ w.cell? ⟨b, 1, none⟩ = some (.bool r.found) ∧ w.cell? ⟨b, 2, none⟩ = some (.string r.val) ∧ w.cell? ⟨b, 3, none⟩ = some (.int .i64 r.ses) ∧ w.cell? ⟨b, 4, none⟩ = some v := by
  unfold RepAt at h
  refine ⟨?_, ?_, ?_, ?_, ?_⟩
  all_goals
    unfold World.cell?
    dsimp only
    rw [h]
    rfl

set_option maxRecDepth 100000 in
set_option maxHeartbeats 2000000 in
theorem replyB_any (r : Rep9) (p : Option Addr) (n c : Nat) (w : World) (hP : HasP w (.slice p n c) r.l) (hf : FewR r) :
    Calls Try.prog 25 #[.agg (r.arr (.slice p n c))] w fun e w' => ∃ v, e = .returned v ∧ Owns w' w.heap.size 5 v (repB r) ∧ Below w.heap.size w w' := by
  obtain ⟨i0, hi, hz0, hz1, hz2⟩ := info_parts info8c
  have hv := fewR_val hf
  have hL := fewR_len hf
  have Hf : Hid (FewP r.l) := fewR_fewP hf
  have HR : Hid (repB r = numB (zigS r.err) ++ numB (zigS r.ses) ++ [boolB r.found] ++ textB r.val ++ expB r.l) := rfl
  have HN : Hid (r.l.length = n) := hP.len.1.symm
  have hn5 : n ≤ 500 := by rw [← HN.out]; exact hL
  have hA0 := RepAt.new w r (.slice p n c)
  have hB0 : Below w.heap.size w (w.alloc (.cells (r.arr (.slice p n c)) 39)) := (Below.refl _ _).alloc (Nat.le_refl _) _
  have hP0 := hP.below hB0 (Nat.le_refl _)
  have b1 := zig_bd r.err
  have b2 := zig_bd r.ses
  have z1 := fun w => zig_any r.err w
  have z2 := fun w => zig_any r.ses w
  have n1 := numB_le (zigS r.err)
  have n2 := numB_le (zigS r.ses)
  have t1 := textB_length r.val
  generalize hxs : repB r = XS at *
  clear hxs
  obtain ⟨err, fnd, val, ses, l⟩ := r
  unfold Rep9.arr at *
  dsimp only at *
  generalize zigS err = ze at *
  generalize zigS ses = zs at *
  go_enter Try.func25, Try.ntmps25
  go_wp2_with fail
  generalize w.alloc (.cells #[.int .i64 err, .bool fnd, .string val, .int .i64 ses, .slice p n c] 39) = W0 at *
  refine same_mono (z1 _) ?_
  have p1 := put_any (.slice none 0 0) [] ze W0 (Has.nil W0) (by simp) b1.1 b1.2
  rw [List.nil_append] at p1
  go_wp2_with fail
  refine p1.mono ?_
  rintro e w1 ⟨v1, rfl, ho1, hb1⟩
  have hA1 := hA0.below hb1
  obtain ⟨c0, c1, c2, c3, c4⟩ := hA1.cells
  dsimp only at c0 c1 c2 c3 c4
  have hB1 := hB0.trans (hb1.mono hB0.size)
  have hP1 := hP0.below hb1 (Nat.le_refl _)
  clear p1 z1 hA0 hB0 hP0 hb1
  go_wp2_with fail
  refine same_mono (z2 _) ?_
  have p2 := put_any v1 _ zs w1 ho1.has (by omega) b2.1 b2.2
  go_wp2_with fail
  refine p2.mono ?_
  rintro e w2 ⟨v2, rfl, ho2, hb2⟩
  have hA2 := hA1.below hb2
  obtain ⟨d0, d1, d2, d3, d4⟩ := hA2.cells
  dsimp only at d0 d1 d2 d3 d4
  have hB2 := hB1.trans (hb2.mono hB1.size)
  have hP2 := hP1.below hb2 (Nat.le_refl _)
  have p3 := putBool_any v2 _ fnd w2 ho2.has (by simp only [List.length_append]; omega)
  clear p2 z2 hA1 hB1 hP1 hb2 c0 c1 c2 c3 c4
  go_wp2_with fail
  refine p3.mono ?_
  rintro e w3 ⟨v3, rfl, ho3, hb3⟩
  have hA3 := hA2.below hb3
  obtain ⟨c0, c1, c2, c3, c4⟩ := hA3.cells
  dsimp only at c0 c1 c2 c3 c4
  have hB3 := hB2.trans (hb3.mono hB2.size)
  have hP3 := hP2.below hb3 (Nat.le_refl _)
  have p4 := putText_any v3 _ val w3 ho3.has (by simp only [List.length_append, List.length_cons, List.length_nil]; omega) (by omega)
  clear p3 hA2 hB2 hP2 hb3 d0 d1 d2 d3 d4
  go_wp2_with fail
  refine p4.mono ?_
  rintro e w4 ⟨v4, rfl, ho4, hb4⟩
  have hA4 := hA3.below hb4
  obtain ⟨d0, d1, d2, d3, d4⟩ := hA4.cells
  dsimp only at d0 d1 d2 d3 d4
  have hB4 := hB3.trans (hb4.mono hB3.size)
  have hP4 := hP3.below hb4 (Nat.le_refl _)
  have hl4 : (numB ze ++ numB zs ++ [boolB fnd] ++ textB val).length ≤ 20000 := by simp only [List.length_append, List.length_cons, List.length_nil]; omega
  have hle3 := hB3.size
  clear p4 hA3 hB3 hP3 hb4 c0 c1 c2 c3 c4
  generalize numB ze ++ numB zs ++ [boolB fnd] ++ textB val = H at *
  have hwr : IntKind.u64.wrap (n : Int) = (n : Int) := by simp [IntKind.wrap, IntKind.bits, IntKind.signed]; omega
  have hsz4 := hB4.size
  have p5 := put_any v4 H (n : Int) w4 ho4.has (by omega) (by omega) (by omega)
  have hnb := numB_le (n : Int)
  have HP : Hid (HasP w4 (.slice p n c) l) := hP4
  clear hP hP4
  go_wp2_with fail
  refine p5.mono ?_
  rintro e w5 ⟨v5, rfl, ho5, hb5⟩
  have hA5 := hA4.below hb5
  obtain ⟨c0, c1, c2, c3, c4⟩ := hA5.cells
  dsimp only at c0 c1 c2 c3 c4
  clear p5 hwr hA4 d0 d1 d2 d3 d4
  go_wp2
  clear c0 c1 c2 c3 c4 hA5 ho4
  go_loopw [3, 32] (fun s3 i wr => ∃ (j : Nat) (u : Value), u = s3 ∧ j ≤ n ∧ i = .int .i64 (j : Nat) ∧ Owns wr w4.heap.size 5 u (H ++ numB (n : Int) ++ pairsB (l.take j)) ∧ Below w4.heap.size w4 wr) (fun _ i _ => n - (intOf i).toNat)
  case atStart => exact ⟨0, _, rfl, Nat.zero_le _, rfl, by rw [List.take_zero]; simpa [pairsB] using ho5, hb5⟩
  case round =>
    obtain ⟨j, u, hu, hj, rfl, hr, hbr⟩ := hrel
    subst hu
    by_cases hlt : j < n
    · obtain ⟨bb, oo, rfl, hbb, hcc, -, c1, c2⟩ := (HP.out.below hbr (Nat.le_refl _)).at (j := j) hlt
      have Hm : Hid (l.getD j default ∈ l) := pgetD_mem (by rw [HN.out]; exact hlt)
      have Ht : Hid (l.take j ++ [l.getD j default] = l.take (j + 1)) := ptake_snoc (by rw [HN.out]; exact hlt)
      have hszs := Hf.out.2 _ Hm.out
      have hpl := Hf.out.take j
      generalize l.getD j default = x at *
      obtain ⟨xk, xv⟩ := x
      dsimp only at c1 c2 hszs
      have hbz := hbr.size
      have hA : Below w4.heap.size w4 (wr.alloc (.cells #[.string xk, .string xv] 67)) := hbr.alloc hbz _
      have hrA : Owns (wr.alloc (.cells #[.string xk, .string xv] 67)) w4.heap.size 5 u (H ++ numB (n : Int) ++ pairsB (l.take j)) := World.ownsRow.alloc hr _
      have ck : (wr.alloc (.cells #[.string xk, .string xv] 67)).heap[wr.heap.size]? = some (.cells #[.string xk, .string xv] 67 (0, 0)) := heap_alloc_new _ _
      have hzA : (wr.alloc (.cells #[.string xk, .string xv] 67)).heap.size = wr.heap.size + 1 := by simp
      have hown1 : ∀ k, u.ownBlock = some k → k < wr.heap.size := fun k hk => (World.ownsRow.lt hr k hk).2
      have hp1 := putText_any (.slice none 0 0) [] xk (wr.alloc (.cells #[.string xk, .string xv] 67)) (Has.nil _) (by simp) (by omega)
      rw [List.nil_append] at hp1
      go_wp2_with fail
      generalize wr.alloc (.cells #[.string xk, .string xv] 67) = wa at *
      refine hp1.mono ?_
      rintro e y3 ⟨u3, rfl, q3, hb3⟩
      have hl3 := textB_length xk
      have hrA3 := hrA.below hb3 (Nat.le_refl _)
      have ck3 := (hb3.block _ (by omega)).trans ck
      have hb3z := hb3.size
      have hby3 : Below w4.heap.size w4 y3 := hA.trans (hb3.mono (by omega))
      clear hp1 c1 c2 hA hrA ck
      go_wp2_with (at_builtin; refine ap_slice_g _ rfl _ _ 28 rfl w4.heap.size 5 i0 Try.underlying28 hi hz0 hz1 hz2 _ _ (textB xk) rfl (by exact q3.has) (by exact hrA3) (by simp only [List.length_append]; omega) (by omega) (by omega) ?_; intro u4 y4 q4 hg4; have ck4 := (hg4.block wr.heap.size (by omega) (fun e => by have := hown1 _ e.symm; omega)).trans ck3; have hb4z := hg4.size; have hp2 := putText_any (.slice none 0 0) [] xv y4 (Has.nil _) (by simp) (by omega); rw [List.nil_append] at hp2; have e4 : y4.cell? ⟨wr.heap.size, 1, none⟩ = some (.string xv) := by (unfold World.cell?; dsimp only; rw [ck4]; rfl))
      refine hp2.mono ?_
      rintro e y5 ⟨u5, rfl, q5, hb5⟩
      have hl5 := textB_length xv
      have ho4' := q4.below hb5 (Nat.le_refl _)
      have hbw4 : Below w4.heap.size w4 y4 := hby3.grown hg4 (by omega) fun k hk => (World.ownsRow.lt hr k hk).1
      have hb5z := hb5.size
      have hby5 : Below w4.heap.size w4 y5 := hbw4.trans (hb5.mono (by omega))
      have hown4 : ∀ k, u4.ownBlock = some k → w4.heap.size ≤ k := fun k hk => (World.ownsRow.lt q4 k hk).1
      clear hp2 ck4 ck3 e4
      go_wp2_with (at_builtin; refine ap_slice_g _ rfl _ _ 28 rfl w4.heap.size 5 i0 Try.underlying28 hi hz0 hz1 hz2 _ _ (textB xv) rfl (by exact q5.has) (by exact ho4') (by simp only [List.length_append]; omega) (by omega) (by omega) ?_; intro u6 y6 q6 hg6)
      go_roundw
      case rel =>
        refine ⟨j + 1, _, rfl, by omega, by go_num, ?_, hby5.grown hg6 (by omega) hown4⟩
        rw [← Ht.out, pairsB_snoc, ← List.append_assoc, ← List.append_assoc]
        exact q6
      case measure => simp only [intOf]; omega
    · rw [List.take_of_length_le (by rw [HN.out]; omega)] at hr
      have hbB := hB4.trans (hbr.mono hsz4)
      go_wp2
      go_ret
      refine ⟨_, rfl, ?_, hbB⟩
      rw [HR.out]
      unfold expB
      rw [HN.out, ← List.append_assoc]
      exact hr.mono hsz4


set_option maxRecDepth 100000 in
set_option maxHeartbeats 2000000 in
theorem rreplyB_any (r : Rep9) (p : Option Addr) (n c : Nat) (w : World) (hP : HasP w (.slice p n c) r.l) (hf : FewR r) :
    Calls Try.prog 26 #[.agg (r.arr (.slice p n c))] w fun e w' => ∃ v, e = .returned v ∧ Owns w' w.heap.size 5 v (repB r) ∧ Below w.heap.size w w' := by
  obtain ⟨i0, hi, hz0, hz1, hz2⟩ := info_parts info8c
  have hv := fewR_val hf
  have hL := fewR_len hf
  have Hf : Hid (FewP r.l) := fewR_fewP hf
  have HR : Hid (repB r = numB (zigS r.err) ++ numB (zigS r.ses) ++ [boolB r.found] ++ textB r.val ++ expB r.l) := rfl
  have HN : Hid (r.l.length = n) := hP.len.1.symm
  have hn5 : n ≤ 500 := by rw [← HN.out]; exact hL
  have hA0 := RepAt.new w r (.slice p n c)
  have hB0 : Below w.heap.size w (w.alloc (.cells (r.arr (.slice p n c)) 39)) := (Below.refl _ _).alloc (Nat.le_refl _) _
  have hP0 := hP.below hB0 (Nat.le_refl _)
  have b1 := zig_bd r.err
  have b2 := zig_bd r.ses
  have z1 := fun w => rzig_any r.err w
  have z2 := fun w => rzig_any r.ses w
  have n1 := numB_le (zigS r.err)
  have n2 := numB_le (zigS r.ses)
  have t1 := textB_length r.val
  generalize hxs : repB r = XS at *
  clear hxs
  obtain ⟨err, fnd, val, ses, l⟩ := r
  unfold Rep9.arr at *
  dsimp only at *
  generalize zigS err = ze at *
  generalize zigS ses = zs at *
  go_enter Try.func26, Try.ntmps26
  go_wp2_with fail
  generalize w.alloc (.cells #[.int .i64 err, .bool fnd, .string val, .int .i64 ses, .slice p n c] 39) = W0 at *
  refine same_mono (z1 _) ?_
  have p1 := rput_cod (.slice none 0 0) [] ze W0 (Has.nil W0) (by simp) b1.1 b1.2
  rw [List.nil_append] at p1
  go_wp2_with fail
  refine p1.mono ?_
  rintro e w1 ⟨v1, rfl, ho1, hb1⟩
  have hA1 := hA0.below hb1
  obtain ⟨c0, c1, c2, c3, c4⟩ := hA1.cells
  dsimp only at c0 c1 c2 c3 c4
  have hB1 := hB0.trans (hb1.mono hB0.size)
  have hP1 := hP0.below hb1 (Nat.le_refl _)
  clear p1 z1 hA0 hB0 hP0 hb1
  go_wp2_with fail
  refine same_mono (z2 _) ?_
  have p2 := rput_cod v1 _ zs w1 ho1.has (by omega) b2.1 b2.2
  go_wp2_with fail
  refine p2.mono ?_
  rintro e w2 ⟨v2, rfl, ho2, hb2⟩
  have hA2 := hA1.below hb2
  obtain ⟨d0, d1, d2, d3, d4⟩ := hA2.cells
  dsimp only at d0 d1 d2 d3 d4
  have hB2 := hB1.trans (hb2.mono hB1.size)
  have hP2 := hP1.below hb2 (Nat.le_refl _)
  have p3 := rputBool_any v2 _ fnd w2 ho2.has (by simp only [List.length_append]; omega)
  clear p2 z2 hA1 hB1 hP1 hb2 c0 c1 c2 c3 c4
  go_wp2_with fail
  refine p3.mono ?_
  rintro e w3 ⟨v3, rfl, ho3, hb3⟩
  have hA3 := hA2.below hb3
  obtain ⟨c0, c1, c2, c3, c4⟩ := hA3.cells
  dsimp only at c0 c1 c2 c3 c4
  have hB3 := hB2.trans (hb3.mono hB2.size)
  have hP3 := hP2.below hb3 (Nat.le_refl _)
  have p4 := rputText_any v3 _ val w3 ho3.has (by simp only [List.length_append, List.length_cons, List.length_nil]; omega) (by omega)
  clear p3 hA2 hB2 hP2 hb3 d0 d1 d2 d3 d4
  go_wp2_with fail
  refine p4.mono ?_
  rintro e w4 ⟨v4, rfl, ho4, hb4⟩
  have hA4 := hA3.below hb4
  obtain ⟨d0, d1, d2, d3, d4⟩ := hA4.cells
  dsimp only at d0 d1 d2 d3 d4
  have hB4 := hB3.trans (hb4.mono hB3.size)
  have hP4 := hP3.below hb4 (Nat.le_refl _)
  have hl4 : (numB ze ++ numB zs ++ [boolB fnd] ++ textB val).length ≤ 20000 := by simp only [List.length_append, List.length_cons, List.length_nil]; omega
  have hle3 := hB3.size
  clear p4 hA3 hB3 hP3 hb4 c0 c1 c2 c3 c4
  generalize numB ze ++ numB zs ++ [boolB fnd] ++ textB val = H at *
  have p5 := rpairsB_any (.slice p n c) l w4 hP4 (by omega) Hf.out.2
  have hxl : (expB l).length ≤ 600000000 := by
    have h1 := pairsB_length (m := 131072) (l := l) Hf.out.2
    have h3 := Nat.mul_le_mul_right (2 * 131072 + 18) hL
    have h4 := numB_le (l.length : Int)
    unfold expB
    rw [List.length_append]
    omega
  have hsz4 := hB4.size
  clear hP hP4
  generalize expB l = E at *
  go_wp2_with fail
  refine p5.mono ?_
  rintro e w5 ⟨v5, rfl, ho5, hb5⟩
  have ho4' := ho4.below hb5 (Nat.le_refl _)
  have hsz5 := hb5.size
  have hB5 := hB4.trans (hb5.mono hsz4)
  clear p5
  go_wp2_with (at_builtin; refine ap_slice_g _ rfl _ _ 28 rfl w.heap.size 5 i0 Try.underlying28 hi hz0 hz1 hz2 _ _ E rfl (by exact ho5.has) (by exact ho4'.mono hle3) (by omega) (by omega) (by omega) ?_; intro v6 w6 ho6 hg6)
  go_ret
  refine ⟨_, rfl, by rw [HR.out]; exact ho6, hB5.grown hg6 (by omega) fun k hk => Nat.le_trans hle3 (World.ownsRow.lt ho4' k hk).1⟩
end Go.Proofs.Ytomhmoedicajoaa
