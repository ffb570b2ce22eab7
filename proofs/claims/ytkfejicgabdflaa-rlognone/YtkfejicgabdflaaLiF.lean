import Derived.Test.YtkfejicgabdflaaLiETo
namespace Go.Proofs.Ytkfejicgabdflaa
open Go.RowKit Go.Shelf
attribute [local go_sem ↓] ldE_exec stE_exec ldE_execI stE_execI ldE_box ldC_exec stC_exec ldC_execI stC_execI ldC_run oc_int oc_bool oc_string oc_slice oc_pointer
theorem infoP13 : (Try.prog.info? 30).map (fun i => (i.zero, i.size, i.bytes)) = some (some (.pointer none), 1, 8) := by kernel_rfl
theorem index_two13 (x y : Value) (W : World) : (Instr.index 63 (.agg #[x, y]) (.int .i64 0)).run Try.prog W = .ok x W ∧ (Instr.index 63 (.agg #[x, y]) (.int .i64 1)).run Try.prog W = .ok y W := by
  obtain ⟨i1, hi1, hz1, hs1, hb1⟩ := info_parts infoP13
  constructor
  · simp [Instr.index, asIntOf, run_underlying Try.underlying63, sizeOf, typeInfo, hi1, part, go_sem]
  · simp [Instr.index, asIntOf, run_underlying Try.underlying63, sizeOf, typeInfo, hi1, hs1, part, go_sem]
set_option maxRecDepth 100000 in
set_option maxHeartbeats 8000000 in
theorem rlogNone_walk (w : World) (a : ActV13) :
    Calls Try.prog 7 #[.agg a.arr] w fun e w' => e = .returned (.bool true) ∧ Below w.heap.size w w' := by
  obtain ⟨k, n, m, s, es⟩ := a
  unfold ActV13.arr
  dsimp only
  have hB1 : Below w.heap.size w ((w.alloc (.cells #[.int .i64 k, .int .i64 n, .int .i64 m, .slice s.p s.n s.c] 29)).alloc (.cells #[.bool false, .int .i64 0, .int .i64 0, .slice none 0 0, .int .i64 0, .int .i64 0, .int .i64 0, .int .i64 0] 62)) := ((Below.refl _ w).alloc (Nat.le_refl _) _).alloc (by simp) _
  have hx : ((w.alloc (.cells #[.int .i64 k, .int .i64 n, .int .i64 m, .slice s.p s.n s.c] 29)).alloc (.cells #[.bool false, .int .i64 0, .int .i64 0, .slice none 0 0, .int .i64 0, .int .i64 0, .int .i64 0, .int .i64 0] 62)).heap[w.heap.size]? = some (.cells #[.int .i64 k, .int .i64 n, .int .i64 m, .slice s.p s.n s.c] 29 (0, 0)) := box_below (heap_alloc_new w _) ((Below.refl _ _).alloc (Nat.le_refl _) _)
  have hz : ((w.alloc (.cells #[.int .i64 k, .int .i64 n, .int .i64 m, .slice s.p s.n s.c] 29)).alloc (.cells #[.bool false, .int .i64 0, .int .i64 0, .slice none 0 0, .int .i64 0, .int .i64 0, .int .i64 0, .int .i64 0] 62)).heap[w.heap.size + 1]? = some (.cells #[.bool false, .int .i64 0, .int .i64 0, .slice none 0 0, .int .i64 0, .int .i64 0, .int .i64 0, .int .i64 0] 62 (0, 0)) := by
    have := heap_alloc_new (w.alloc (.cells #[.int .i64 k, .int .i64 n, .int .i64 m, .slice s.p s.n s.c] 29)) (.cells #[.bool false, .int .i64 0, .int .i64 0, .slice none 0 0, .int .i64 0, .int .i64 0, .int .i64 0, .int .i64 0] 62)
    rwa [World.size_alloc] at this
  have HB1 : Hid _ := hB1
  have HX : Hid _ := hx
  have HZ : Hid _ := hz
  clear hB1 hx hz
  go_enter Try.func7, Try.ntmps7
  go_wp2
  generalize (w.alloc (.cells #[.int .i64 k, .int .i64 n, .int .i64 m, .slice s.p s.n s.c] 29)).alloc (.cells #[.bool false, .int .i64 0, .int .i64 0, .slice none 0 0, .int .i64 0, .int .i64 0, .int .i64 0, .int .i64 0] 62) = W1 at *
  go_loopw [17] (fun s17 wr => ∃ j : Nat, s17 = .int .i64 (j : Nat) ∧ j ≤ 2 ∧ Below W1.heap.size W1 wr) (fun s17 _ => 2 - (intOf s17).toNat)
  case atStart => exact ⟨0, rfl, Nat.zero_le _, Below.refl _ _⟩
  case round =>
    obtain ⟨j, rfl, hj, hb⟩ := hrel
    have HBr : Hid (Below w.heap.size w wr) := HB1.out.trans (hb.mono HB1.out.size)
    by_cases hj2 : j < 2
    · have hq : ∃ p, (∀ W, (Instr.index 63 (.agg #[.pointer none, .pointer (some ⟨w.heap.size + 1, 0, none⟩)]) (.int .i64 (j : Nat))).run Try.prog W = .ok (.pointer p) W) ∧ Dead13 (.pointer p) wr := by
        rcases (show j = 0 ∨ j = 1 by omega) with rfl | rfl
        · exact ⟨none, fun W => (index_two13 _ _ W).1, .inl rfl⟩
        · exact ⟨_, fun W => (index_two13 _ _ W).2, .inr ⟨w.heap.size + 1, rfl, box_below HZ.out hb⟩⟩
      obtain ⟨p, hidx, hD⟩ := hq
      have hbx := box_below HX.out hb
      have c1 : wr.cell? ⟨w.heap.size, 1, none⟩ = some (.int .i64 n) := box_cell hbx 1
      have c2 : wr.cell? ⟨w.heap.size, 2, none⟩ = some (.int .i64 m) := box_cell hbx 2
      have c3 : wr.cell? ⟨w.heap.size, 3, none⟩ = some (.slice s.p s.n s.c) := box_cell hbx 3
      have hlt := box_lt hbx
      have HBX : Hid _ := hbx
      have HDr : Hid (Dead13 (.pointer p) wr) := hD
      have kb := baseD13 hD
      have kl := lastD13 hD
      have kt := termD13 hD n
      have km := matchD13 hD n m s
      have hbr := hb
      clear hbx hD
      go_wp2_with fail
      refine same_mono kb ?_
      go_wp2_with fail
      refine same_mono kl ?_
      go_wp2_with fail
      refine same_mono kt ?_
      go_wp2_with fail
      refine km.mono ?_
      rintro _ w2 ⟨rfl, hb2⟩
      have HB2 : Hid (Below wr.heap.size wr w2) := hb2
      have kc := confD13 (HDr.out.below hb2)
      clear kb kl kt km c1 c2 c3 hlt hb2
      go_wp2_with fail
      refine kc.mono ?_
      rintro _ w3 ⟨rfl, hb3⟩
      have hB3 : Below wr.heap.size wr w3 := HB2.out.trans (hb3.mono HB2.out.size)
      have hba := heap_alloc_new w3 (.cells #[.slice none 0 0, .slice none 0 0] 49)
      have d0 := box_cell hba 0
      have d1 := box_cell hba 1
      have fd := frozen9 hba
      have ld := box_lt hba
      have hB4 : Below wr.heap.size wr (w3.alloc (.cells #[.slice none 0 0, .slice none 0 0] 49)) := below_same13 hB3 _
      have HB4 : Hid _ := hB4
      have hbx4 := box_below HBX.out hB4
      have e1 : (w3.alloc (.cells #[.slice none 0 0, .slice none 0 0] 49)).cell? ⟨w.heap.size, 1, none⟩ = some (.int .i64 n) := box_cell hbx4 1
      have e2 : (w3.alloc (.cells #[.slice none 0 0, .slice none 0 0] 49)).cell? ⟨w.heap.size, 2, none⟩ = some (.int .i64 m) := box_cell hbx4 2
      have le := box_lt hbx4
      have ks := sureD13 (HDr.out.below hB4) n
      have kr := restoreD13 (HDr.out.below hB4) n m
      have HD : Hid (∀ W, Below _ _ W → Dead13 (.pointer p) W) := fun W hW => (HDr.out.below hB4).below hW
      clear kc hb3 hB3 hba hB4 hbx4
      unfold noFV nilS10 ConfV.arr
      dsimp only
      go_upto_region 10 with fail
      generalize w3.alloc (.cells #[.slice none 0 0, .slice none 0 0] 49) = W4 at *
      clear d0 d1 fd ld
      go_wp2_with fail
      refine same_mono ks ?_
      go_wp2_with fail
      refine same_mono kr ?_
      clear ks kr
      have s0 : W4.drew.cell? ⟨w.heap.size, 1, none⟩ = some (.int .i64 n) ∧ W4.drew.cell? ⟨w.heap.size, 2, none⟩ = some (.int .i64 m) ∧ Below W4.heap.size W4 W4.drew := ⟨e1, e2, below_drew13 W4⟩
      go_wp2_with fail
      simp only [List.append_eq, List.cons_append, List.nil_append]
      go_region_held3 (fun w' => w'.cell? ⟨w.heap.size, 1, none⟩ = some (.int .i64 n) ∧ w'.cell? ⟨w.heap.size, 2, none⟩ = some (.int .i64 m) ∧ Below W4.heap.size W4 w')
        (first | exact s0 | assumption | exact kq13 le (by assumption) (by assumption))
        (first
        | (go_at_call 30; (with_reducible refine Calls.mono (noop13_any _ 1 1) ?_); rintro _ wa ⟨rfl, hba⟩)
        | (go_at_call 19; (with_reducible refine Calls.mono (appendD13 (HD.out _ (kq13b (by assumption))) (noopV13 1 1)) ?_); rintro _ wb ⟨rfl, hbb⟩)
        | (go_at_call 23; (with_reducible refine Calls.mono (commitD13 (HD.out _ (kq13b (by assumption))) n) ?_); rintro _ wc ⟨rfl, rfl⟩)
        | (go_at_call 25; (with_reducible refine Calls.mono (compactD13 (HD.out _ (kq13b (by assumption))) n) ?_); rintro _ wd ⟨rfl, hbd⟩)
        | (go_at_call 31; (with_reducible refine Calls.mono (newerD13 (HD.out _ (kq13b (by assumption))) n m) ?_); rintro _ we ⟨rfl, rfl⟩)
        | (go_at_call 32; (with_reducible refine Calls.mono (hintD13 (HD.out _ (kq13b (by assumption))) n m) ?_); rintro _ wf ⟨rfl, hbf⟩)
        | (go_at_call 15; (with_reducible refine Calls.mono (doneD13 (HD.out _ (kq13b (by assumption)))) ?_); rintro _ wg ⟨rfl, rfl⟩)
        | (go_at_call 33; (with_reducible refine Calls.mono (safeD13 (HD.out _ (kq13b (by assumption)))) ?_); rintro _ wh ⟨rfl, rfl⟩)
        | (go_at_call 20; (with_reducible refine Calls.mono (usedD13 (HD.out _ (kq13b (by assumption)))) ?_); rintro _ wi ⟨rfl, rfl⟩)
        | (go_at_call 17; (with_reducible refine Calls.mono (sliceD13 (HD.out _ (kq13b (by assumption))) n m) ?_); rintro _ wj ⟨rfl, rfl⟩)
        | (go_at_call 34; (with_reducible refine Calls.mono (unsureD13 (HD.out _ (kq13b (by assumption)))) ?_); rintro _ wk ⟨rfl, rfl⟩)
        | (go_at_call 24; (with_reducible refine Calls.mono (applyD13 (HD.out _ (kq13b (by assumption))) n) ?_); rintro _ wl ⟨rfl, rfl⟩))
      have HB9 : Hid (Below W4.heap.size W4 wl) := kq13b (by assumption)
      have HBw : Hid (Below W1.heap.size W1 wl) := hbr.trans ((HB4.out.trans (HB9.out.mono HB4.out.size)).mono hbr.size)
      clear s0 e1 e2
      go_wp2
      go_roundw
      case rel => exact ⟨j + 1, by go_num, by omega, HBw.out⟩
      case measure => simp only [intOf]; omega
    · obtain rfl : j = 2 := by omega
      go_wp2_with fail
      refine (lives13_any wr).mono ?_
      rintro _ w3 ⟨rfl, hb3⟩
      go_wp2
      go_ret
      exact ⟨rfl, HBr.out.trans (hb3.mono HBr.out.size)⟩
theorem rlogNone_row (w : World) (a : ActV13) (_ha : FitsA13 w a) :
    Calls Try.prog 7 #[.agg a.arr] w fun e w' => e = .returned (.bool true) ∧ Below w.heap.size w w' := rlogNone_walk w a
end Go.Proofs.Ytkfejicgabdflaa
