import Derived.Test.YtnbaoimjcaeeaaaGreatEq1To
import Derived.Test.YtnbaoimjcaeeaaaGreatEo6To
import Derived.Test.YtnbaoimjcaeeaaaGreatEo4To
/-
  Contracts: corbelref10.readEntry.
-/
namespace Go.Proofs.YtnbaoimjcaeeaaaGreat
open Go.RowKit Go.Shelf

/-- The reader is wrong, and nothing is left. -/
theorem Rdr.off {w0 w : World} {rb : Nat} {S : St} (h : Rdr w0 w rb S) : Left10 w0 w rb ([], true) ((w.setCell ⟨rb, 1, none⟩ (.bool true)).setCell ⟨rb, 0, none⟩ (.slice none 0 0)) := by
  obtain ⟨v, hv⟩ := h.rd
  have hg := grown_trans (grown_set w rb 1 (.bool true)) (grown_set (w.setCell ⟨rb, 1, none⟩ (.bool true)) rb 0 (.slice none 0 0))
  exact ⟨h.grow ⟨_, (hv.setW true).setB (HasIn.nil _ _)⟩ hg (fun _ => rfl) IsB.nil (Nat.zero_le _), hg⟩
theorem tail10_cmd (m i t : Int) (S : St) : tail10 m i t 2 S = (⟨i, t, 2, (readC9 (byt10 S).1).1, noF10⟩, if (readC9 (byt10 S).1).2 = 0 then (byt10 S).2 else ([], true)) := by
  unfold tail10 bindR holdR retR
  rw [if_pos rfl]
  dsimp only
  by_cases h : (readC9 (byt10 S).1).2 = 0
  · rw [if_pos h, decide_eq_true h]; rfl
  · rw [if_neg h, decide_eq_false h]; rfl
theorem tail10_conf (m i t : Int) : tail10 m i t 3 = bindR (conf10 m) fun f => retR ⟨i, t, 3, zeroC9, f⟩ := by
  unfold tail10
  rw [if_neg (by decide), if_pos rfl]
theorem tail10_else (m i t k : Int) (S : St) (h2 : k ≠ 2) (h3 : k ≠ 3) : tail10 m i t k S = (⟨i, t, k, zeroC9, noF10⟩, S) := by
  unfold tail10 retR
  rw [if_neg h2, if_neg h3]
/-- What the document's reader of an entry leaves. -/
def TellsE (w0 w : World) (rb : Nat) (R : Ent10 × St) (e : Ending) (w' : World) : Prop := ∃ (X : EntV) (S' : St), e = .returned (.agg X.arr) ∧ OwnsE w' w.heap.size X ∧ Tell10 R X.e S' ∧ Left10 w0 w rb S' w'
theorem ent10_is {m : Int} {S0 S1 S2 S3 : St} {i t k : Int} (e0 : int9 S0 = (i, S1)) (e1 : int9 S1 = (t, S2)) (e2 : int9 S2 = (k, S3)) : ent10 m S0 = tail10 m i t k S3 := by
  unfold ent10
  rw [bindR_eq e0, bindR_eq e1, bindR_eq e2]


set_option maxRecDepth 100000 in
set_option maxHeartbeats 8000000 in
theorem rentryR_any (w0 w : World) (rb : Nat) (S0 : St) (h : Rdr w0 w rb S0) :
    Calls Tryz.prog 29 #[.pointer (some ⟨rb, 0, none⟩)] w (TellsE w0 w rb (ent10 1000000 S0)) := by
  have h0 : RdX w0 w _ rb S0 30 #[.int .i64 0, .int .i64 0, .int .i64 0, .int .i64 0, .int .i64 0, .int .i64 0, .string em9, .string em9, .string em9, .string em9, .int .i64 0, .slice none 0 0, .slice none 0 0] #[.int .i64 0, .int .i64 0, .int .i64 0, .int .i64 0, .int .i64 0, .int .i64 0, .string em9, .string em9, .string em9, .string em9, .int .i64 0, .slice none 0 0, .slice none 0 0] := RdX.new h 30 #[.int .i64 0, .int .i64 0, .int .i64 0, .int .i64 0, .int .i64 0, .int .i64 0, .string em9, .string em9, .string em9, .string em9, .int .i64 0, .slice none 0 0, .slice none 0 0]
  have hrl := h.lt
  clear h
  generalize hR : ent10 1000000 S0 = R
  have HR : Hid (ent10 1000000 S0 = R) := hR
  clear hR
  go_enter Tryz.func29, Tryz.ntmps29
  have ki0 := h0.r.rint
  have HI0 : Hid (inI (int9 S0).1) := int9_in _
  go_wp2_with fail
  refine ki0.mono ?_
  rintro _ y0 ⟨rfl, hl0⟩
  have g0 := h0.left hl0
  clear h0 ki0 hl0
  generalize hA : int9 S0 = A at *
  obtain ⟨z0, S1⟩ := A
  have E0 : Hid (int9 S0 = (z0, S1)) := hA
  clear hA
  dsimp only at g0 HI0
  have c0 := box_cell g0.box 0
  have fb := frozen9 g0.box
  have hlb := box_lt g0.box
  go_upto_region 3 with fail
  have h1 : RdX w0 w _ rb S1 30 #[.int .i64 z0, .int .i64 0, .int .i64 0, .int .i64 0, .int .i64 0, .int .i64 0, .string em9, .string em9, .string em9, .string em9, .int .i64 0, .slice none 0 0, .slice none 0 0] #[.int .i64 0, .int .i64 0, .int .i64 0, .int .i64 0, .int .i64 0, .int .i64 0, .string em9, .string em9, .string em9, .string em9, .int .i64 0, .slice none 0 0, .slice none 0 0] := g0.put 0 (.int .i64 z0) (by show 0 < 13; omega)
  clear g0 c0 fb hlb
  generalize y0.setCell ⟨w.heap.size + 1, 0, none⟩ (.int .i64 z0) = X0 at *
  have ki1 := h1.r.rint
  have HI1 : Hid (inI (int9 S1).1) := int9_in _
  go_wp2_with fail
  refine ki1.mono ?_
  rintro _ y1 ⟨rfl, hl1⟩
  have g1 := h1.left hl1
  clear h1 ki1 hl1
  generalize hA : int9 S1 = A at *
  obtain ⟨z1, S2⟩ := A
  have E1 : Hid (int9 S1 = (z1, S2)) := hA
  clear hA
  dsimp only at g1 HI1
  have c1 := box_cell g1.box 1
  have fb := frozen9 g1.box
  have hlb := box_lt g1.box
  go_upto_region 4 with fail
  have h2 : RdX w0 w _ rb S2 30 #[.int .i64 z0, .int .i64 z1, .int .i64 0, .int .i64 0, .int .i64 0, .int .i64 0, .string em9, .string em9, .string em9, .string em9, .int .i64 0, .slice none 0 0, .slice none 0 0] #[.int .i64 0, .int .i64 0, .int .i64 0, .int .i64 0, .int .i64 0, .int .i64 0, .string em9, .string em9, .string em9, .string em9, .int .i64 0, .slice none 0 0, .slice none 0 0] := g1.put 1 (.int .i64 z1) (by show 1 < 13; omega)
  clear g1 c1 fb hlb
  generalize y1.setCell ⟨w.heap.size + 1, 1, none⟩ (.int .i64 z1) = X1 at *
  have ki2 := h2.r.rint
  have HI2 : Hid (inI (int9 S2).1) := int9_in _
  go_wp2_with fail
  refine ki2.mono ?_
  rintro _ y2 ⟨rfl, hl2⟩
  have g2 := h2.left hl2
  clear h2 ki2 hl2
  generalize hA : int9 S2 = A at *
  obtain ⟨z2, S3⟩ := A
  have E2 : Hid (int9 S2 = (z2, S3)) := hA
  clear hA
  dsimp only at g2 HI2
  have c2 := box_cell g2.box 2
  have fb := frozen9 g2.box
  have hlb := box_lt g2.box
  go_upto_region 5 with fail
  have h3 : RdX w0 w _ rb S3 30 #[.int .i64 z0, .int .i64 z1, .int .i64 z2, .int .i64 0, .int .i64 0, .int .i64 0, .string em9, .string em9, .string em9, .string em9, .int .i64 0, .slice none 0 0, .slice none 0 0] #[.int .i64 0, .int .i64 0, .int .i64 0, .int .i64 0, .int .i64 0, .int .i64 0, .string em9, .string em9, .string em9, .string em9, .int .i64 0, .slice none 0 0, .slice none 0 0] := g2.put 2 (.int .i64 z2) (by show 2 < 13; omega)
  clear g2 c2 fb hlb
  generalize y2.setCell ⟨w.heap.size + 1, 2, none⟩ (.int .i64 z2) = X2 at *
  have HC : Hid (R = tail10 1000000 z0 z1 z2 S3) := HR.out.symm.trans (ent10_is E0.out E1.out E2.out)
  clear E0 E1 E2 HR
  have c2 := box_cell h3.box 2
  have hlb := box_lt h3.box
  have hws := h3.g.size
  by_cases e2 : z2 = 2
  · have HT0 : Hid (R = (⟨z0, z1, 2, (readC9 (byt10 S3).1).1, noF10⟩, if (readC9 (byt10 S3).1).2 = 0 then (byt10 S3).2 else ([], true))) := by rw [Hid, HC.out, e2, tail10_cmd]
    subst e2
    clear HC
    have kt := h3.r.rtext
    have HB : Hid (IsB (byt10 S3).1) := byt10_isB h3.r.isb
    have hlen : (byt10 S3).1.length ≤ 1073741824 := Nat.le_trans (byt10_len S3) h3.r.len
    have kr : Hid (∀ W v, Has W v (byt10 S3).1 → Calls Tryz.prog 71 #[v] W fun e w' => e = .returned (.tuple #[.agg (readC9 (byt10 S3).1).1.arr, .int .i64 (readC9 (byt10 S3).1).2]) ∧ Below W.heap.size W w') := fun W v hv => rreadC_any v _ W hv HB.out (by omega)
    have HTx : Hid (strB (strOfNums (byt10 S3).1) = (byt10 S3).1) := strB_of HB.out
    have HFit : Hid (Fits9 (readC9 (byt10 S3).1).1) := readC9_fits _ (by omega)
    generalize byt10 S3 = A at *
    obtain ⟨xs, S4⟩ := A
    dsimp only at kt kr HB HTx HFit HT0 hlen
    generalize readC9 xs = RC at *
    obtain ⟨⟨ck, cs, cq, ckey, cold, cval, cunt, clim⟩, err⟩ := RC
    generalize strOfNums xs = sx at *
    unfold Cmd9.arr at kr
    dsimp only at kr HFit HT0
    clear hlen HB
    go_wp2_with fail
    refine kt.mono ?_
    rintro _ w4 ⟨rfl, hl4⟩
    have h4 := h3.left hl4
    have hcv := Lib.run_convert_string_bytes (P := Tryz.prog) w4 9 22 5 sx (u := .string) Tryz.underlying9 Tryz.underlying22 Tryz.underlying5
    obtain ⟨hH, hb5⟩ := bytes_has w4 sx
    rw [HTx.out] at hH
    have h5 := h4.more hb5
    have k5 := kr.out _ _ hH
    clear kt h3 hl4 h4 hH hb5 c2 hlb kr HTx
    generalize Lib.bytesWorld w4 5 sx = W5 at *
    generalize grownCap w4 sx.size 0 5 = gc at *
    go_wp2_with fail
    refine k5.mono ?_
    rintro _ w6 ⟨rfl, hb6⟩
    have hb7 : Below w6.heap.size w6 (w6.alloc (.cells (Cmd9.mk ck cs cq ckey cold cval cunt clim).arr 25)) := (Below.refl _ _).alloc (Nat.le_refl _) _
    have hbn : CmdAt (w6.alloc (.cells (Cmd9.mk ck cs cq ckey cold cval cunt clim).arr 25)) w6.heap.size ⟨ck, cs, cq, ckey, cold, cval, cunt, clim⟩ := heap_alloc_new w6 _
    have h7 := (h5.more hb6).more hb7
    have hlb6 := box_lt (h5.more hb6).box
    unfold Cmd9.arr at hb7 hbn h7
    dsimp only at hb7 hbn h7
    clear k5 h5 hb6 hb7 hcv
    go_upto_region 7 with fail
    generalize w6.alloc (.cells #[.int .i64 ck, .int .i64 cs, .int .i64 cq, .string ckey, .string cold, .string cval, .string cunt, .int .i64 clim] 25) = W7 at *
    replace hbn : CmdAt W7 w6.heap.size ⟨ck, cs, cq, ckey, cold, cval, cunt, clim⟩ := hbn
    generalize w6.heap.size = bn at *
    by_cases e0 : err = 0
    · have HT : Hid (Tell10 R ⟨z0, z1, 2, ⟨ck, cs, cq, ckey, cold, cval, cunt, clim⟩, noF10⟩ S4) := by
        refine Or.inl ?_
        rw [HT0.out, if_pos e0]
      subst e0
      have h8 := h7
      have hW8 : W7 = W7 := rfl
      revert h8 hbn
      generalize W7 = W8
      intro hbn h8
      clear hW8 h7 HT0
      have c2 := box_cell h8.box 2
      have c3 := box_cell h8.box 3
      have c4 := box_cell h8.box 4
      have c5 := box_cell h8.box 5
      have c6 := box_cell h8.box 6
      have c7 := box_cell h8.box 7
      have c8 := box_cell h8.box 8
      have c9 := box_cell h8.box 9
      have c10 := box_cell h8.box 10
      have fb := frozen9 h8.box
      have hlb := box_lt h8.box
      obtain ⟨q0, q1, q2, q3, q4, q5, q6, q7⟩ := hbn.cells
      dsimp only at q0 q1 q2 q3 q4 q5 q6 q7
      have hlq := box_lt hbn
      go_upto_region 13 with fail
      have hx : RdX w0 w _ rb S4 30 #[.int .i64 z0, .int .i64 z1, .int .i64 2, .int .i64 ck, .int .i64 cs, .int .i64 cq, .string ckey, .string cold, .string cval, .string cunt, .int .i64 clim, .slice none 0 0, .slice none 0 0] #[.int .i64 0, .int .i64 0, .int .i64 0, .int .i64 0, .int .i64 0, .int .i64 0, .string em9, .string em9, .string em9, .string em9, .int .i64 0, .slice none 0 0, .slice none 0 0] := ((((((((h8.put 3 (.int .i64 ck) (by show 3 < 13; omega)).put 4 (.int .i64 cs) (by show 4 < 13; omega)).put 5 (.int .i64 cq) (by show 5 < 13; omega)).put 6 (.string ckey) (by show 6 < 13; omega)).put 7 (.string cold) (by show 7 < 13; omega)).put 8 (.string cval) (by show 8 < 13; omega)).put 9 (.string cunt) (by show 9 < 13; omega)).put 10 (.int .i64 clim) (by show 10 < 13; omega))
      clear h8 c2 c3 c4 c5 c6 c7 c8 c9 c10 fb hlb q0 q1 q2 q3 q4 q5 q6 q7 hlq hbn
      generalize ((((((((W8.setCell ⟨w.heap.size + 1, 3, none⟩ (.int .i64 ck)).setCell ⟨w.heap.size + 1, 4, none⟩ (.int .i64 cs)).setCell ⟨w.heap.size + 1, 5, none⟩ (.int .i64 cq)).setCell ⟨w.heap.size + 1, 6, none⟩ (.string ckey)).setCell ⟨w.heap.size + 1, 7, none⟩ (.string cold)).setCell ⟨w.heap.size + 1, 8, none⟩ (.string cval)).setCell ⟨w.heap.size + 1, 9, none⟩ (.string cunt)).setCell ⟨w.heap.size + 1, 10, none⟩ (.int .i64 clim)) = X6 at *
      have hO : OwnsE X6 (w.heap.size + 1) ⟨z0, z1, 2, ⟨ck, cs, cq, ckey, cold, cval, cunt, clim⟩, noFV⟩ := ⟨HI0.out, HI1.out, ⟨(by decide : (-9223372036854775808 : Int) ≤ 2), (by decide : (2 : Int) ≤ 9223372036854775807)⟩, HFit.out, OwnsF.nil _ _⟩
      have c0 := box_cell hx.box 0
      have c1 := box_cell hx.box 1
      have c2 := box_cell hx.box 2
      have c3 := box_cell hx.box 3
      have c4 := box_cell hx.box 4
      have c5 := box_cell hx.box 5
      have c6 := box_cell hx.box 6
      have c7 := box_cell hx.box 7
      have c8 := box_cell hx.box 8
      have c9 := box_cell hx.box 9
      have c10 := box_cell hx.box 10
      have c11 := box_cell hx.box 11
      have c12 := box_cell hx.box 12
      have d0 := box_cell hx.res 0
      have d1 := box_cell hx.res 1
      have d2 := box_cell hx.res 2
      have d3 := box_cell hx.res 3
      have d4 := box_cell hx.res 4
      have d5 := box_cell hx.res 5
      have d6 := box_cell hx.res 6
      have d7 := box_cell hx.res 7
      have d8 := box_cell hx.res 8
      have d9 := box_cell hx.res 9
      have d10 := box_cell hx.res 10
      have d11 := box_cell hx.res 11
      have d12 := box_cell hx.res 12
      have fb := frozen9 hx.res
      have hlb := box_lt hx.box
      have hlr := box_lt hx.res
      go_wp2
      have hF := fillE (b := w.heap.size) (x0 := noEV) hx.res z0 z1 2 ck cs cq ckey cold cval cunt clim none 0 0 none 0 0 noF10
      have hR9 := ((((((((((((((((((((((((((hx.r).cell (b := w.heap.size) (by omega) (by omega) 0 (.int .i64 z0))).cell (b := w.heap.size) (by omega) (by omega) 1 (.int .i64 z1))).cell (b := w.heap.size) (by omega) (by omega) 2 (.int .i64 2))).cell (b := w.heap.size) (by omega) (by omega) 3 (.int .i64 ck))).cell (b := w.heap.size) (by omega) (by omega) 4 (.int .i64 cs))).cell (b := w.heap.size) (by omega) (by omega) 5 (.int .i64 cq))).cell (b := w.heap.size) (by omega) (by omega) 6 (.string ckey))).cell (b := w.heap.size) (by omega) (by omega) 7 (.string cold))).cell (b := w.heap.size) (by omega) (by omega) 8 (.string cval))).cell (b := w.heap.size) (by omega) (by omega) 9 (.string cunt))).cell (b := w.heap.size) (by omega) (by omega) 10 (.int .i64 clim))).cell (b := w.heap.size) (by omega) (by omega) 11 (.slice none 0 0))).cell (b := w.heap.size) (by omega) (by omega) 12 (.slice none 0 0))
      have hG9 := (grown_new (b := w.heap.size) (grown_new (b := w.heap.size) (grown_new (b := w.heap.size) (grown_new (b := w.heap.size) (grown_new (b := w.heap.size) (grown_new (b := w.heap.size) (grown_new (b := w.heap.size) (grown_new (b := w.heap.size) (grown_new (b := w.heap.size) (grown_new (b := w.heap.size) (grown_new (b := w.heap.size) (grown_new (b := w.heap.size) (grown_new (b := w.heap.size) hx.g (by omega) 0 (.int .i64 z0)) (by omega) 1 (.int .i64 z1)) (by omega) 2 (.int .i64 2)) (by omega) 3 (.int .i64 ck)) (by omega) 4 (.int .i64 cs)) (by omega) 5 (.int .i64 cq)) (by omega) 6 (.string ckey)) (by omega) 7 (.string cold)) (by omega) 8 (.string cval)) (by omega) 9 (.string cunt)) (by omega) 10 (.int .i64 clim)) (by omega) 11 (.slice none 0 0)) (by omega) 12 (.slice none 0 0))
      have hO9 := ((((((((((((((((((((((((((hO).cell (b := w.heap.size) (by omega) 0 (.int .i64 z0))).cell (b := w.heap.size) (by omega) 1 (.int .i64 z1))).cell (b := w.heap.size) (by omega) 2 (.int .i64 2))).cell (b := w.heap.size) (by omega) 3 (.int .i64 ck))).cell (b := w.heap.size) (by omega) 4 (.int .i64 cs))).cell (b := w.heap.size) (by omega) 5 (.int .i64 cq))).cell (b := w.heap.size) (by omega) 6 (.string ckey))).cell (b := w.heap.size) (by omega) 7 (.string cold))).cell (b := w.heap.size) (by omega) 8 (.string cval))).cell (b := w.heap.size) (by omega) 9 (.string cunt))).cell (b := w.heap.size) (by omega) 10 (.int .i64 clim))).cell (b := w.heap.size) (by omega) 11 (.slice none 0 0))).cell (b := w.heap.size) (by omega) 12 (.slice none 0 0))
      exact bodyPost_ret (ret_one rfl _ _ w.heap.size _ _ _ _ rfl hF Tryz.underlying30 rfl (by kernel_rfl)) rfl ⟨⟨z0, z1, 2, ⟨ck, cs, cq, ckey, cold, cval, cunt, clim⟩, noFV⟩, S4, rfl, hO9.mono (by omega), HT.out, hR9, hG9⟩
    · have HT : Hid (Tell10 R ⟨z0, z1, 2, ⟨ck, cs, cq, ckey, cold, cval, cunt, clim⟩, noF10⟩ ([], true)) := by
        refine Or.inl ?_
        rw [HT0.out, if_neg e0]
      have e0' : (err != 0) = true := by simpa using e0
      obtain ⟨v7, hv7⟩ := h7.r.rd
      have r0 := hv7.c0
      have r1 := hv7.c1
      have f0 := hv7.f0
      have f1 := hv7.f1
      have hlr := hv7.lt
      have h8 := h7.left h7.r.off
      have hbn8 : CmdAt _ bn ⟨ck, cs, cq, ckey, cold, cval, cunt, clim⟩ := grown_box h7.r.off.2 hbn (by omega)
      clear hv7 HT0 h7 hbn
      go_upto_region 10 with fail
      have hbn := hbn8
      clear hbn8 r0 r1 f0 f1 hlr
      generalize (W7.setCell ⟨rb, 1, none⟩ (.bool true)).setCell ⟨rb, 0, none⟩ (.slice none 0 0) = W8 at *
      replace hbn : CmdAt W8 bn ⟨ck, cs, cq, ckey, cold, cval, cunt, clim⟩ := hbn
      have c2 := box_cell h8.box 2
      have c3 := box_cell h8.box 3
      have c4 := box_cell h8.box 4
      have c5 := box_cell h8.box 5
      have c6 := box_cell h8.box 6
      have c7 := box_cell h8.box 7
      have c8 := box_cell h8.box 8
      have c9 := box_cell h8.box 9
      have c10 := box_cell h8.box 10
      have fb := frozen9 h8.box
      have hlb := box_lt h8.box
      obtain ⟨q0, q1, q2, q3, q4, q5, q6, q7⟩ := hbn.cells
      dsimp only at q0 q1 q2 q3 q4 q5 q6 q7
      have hlq := box_lt hbn
      go_upto_region 13 with fail
      have hx : RdX w0 w _ rb ([], true) 30 #[.int .i64 z0, .int .i64 z1, .int .i64 2, .int .i64 ck, .int .i64 cs, .int .i64 cq, .string ckey, .string cold, .string cval, .string cunt, .int .i64 clim, .slice none 0 0, .slice none 0 0] #[.int .i64 0, .int .i64 0, .int .i64 0, .int .i64 0, .int .i64 0, .int .i64 0, .string em9, .string em9, .string em9, .string em9, .int .i64 0, .slice none 0 0, .slice none 0 0] := ((((((((h8.put 3 (.int .i64 ck) (by show 3 < 13; omega)).put 4 (.int .i64 cs) (by show 4 < 13; omega)).put 5 (.int .i64 cq) (by show 5 < 13; omega)).put 6 (.string ckey) (by show 6 < 13; omega)).put 7 (.string cold) (by show 7 < 13; omega)).put 8 (.string cval) (by show 8 < 13; omega)).put 9 (.string cunt) (by show 9 < 13; omega)).put 10 (.int .i64 clim) (by show 10 < 13; omega))
      clear h8 c2 c3 c4 c5 c6 c7 c8 c9 c10 fb hlb q0 q1 q2 q3 q4 q5 q6 q7 hlq hbn
      generalize ((((((((W8.setCell ⟨w.heap.size + 1, 3, none⟩ (.int .i64 ck)).setCell ⟨w.heap.size + 1, 4, none⟩ (.int .i64 cs)).setCell ⟨w.heap.size + 1, 5, none⟩ (.int .i64 cq)).setCell ⟨w.heap.size + 1, 6, none⟩ (.string ckey)).setCell ⟨w.heap.size + 1, 7, none⟩ (.string cold)).setCell ⟨w.heap.size + 1, 8, none⟩ (.string cval)).setCell ⟨w.heap.size + 1, 9, none⟩ (.string cunt)).setCell ⟨w.heap.size + 1, 10, none⟩ (.int .i64 clim)) = X6 at *
      have hO : OwnsE X6 (w.heap.size + 1) ⟨z0, z1, 2, ⟨ck, cs, cq, ckey, cold, cval, cunt, clim⟩, noFV⟩ := ⟨HI0.out, HI1.out, ⟨(by decide : (-9223372036854775808 : Int) ≤ 2), (by decide : (2 : Int) ≤ 9223372036854775807)⟩, HFit.out, OwnsF.nil _ _⟩
      have c0 := box_cell hx.box 0
      have c1 := box_cell hx.box 1
      have c2 := box_cell hx.box 2
      have c3 := box_cell hx.box 3
      have c4 := box_cell hx.box 4
      have c5 := box_cell hx.box 5
      have c6 := box_cell hx.box 6
      have c7 := box_cell hx.box 7
      have c8 := box_cell hx.box 8
      have c9 := box_cell hx.box 9
      have c10 := box_cell hx.box 10
      have c11 := box_cell hx.box 11
      have c12 := box_cell hx.box 12
      have d0 := box_cell hx.res 0
      have d1 := box_cell hx.res 1
      have d2 := box_cell hx.res 2
      have d3 := box_cell hx.res 3
      have d4 := box_cell hx.res 4
      have d5 := box_cell hx.res 5
      have d6 := box_cell hx.res 6
      have d7 := box_cell hx.res 7
      have d8 := box_cell hx.res 8
      have d9 := box_cell hx.res 9
      have d10 := box_cell hx.res 10
      have d11 := box_cell hx.res 11
      have d12 := box_cell hx.res 12
      have fb := frozen9 hx.res
      have hlb := box_lt hx.box
      have hlr := box_lt hx.res
      go_wp2
      have hF := fillE (b := w.heap.size) (x0 := noEV) hx.res z0 z1 2 ck cs cq ckey cold cval cunt clim none 0 0 none 0 0 noF10
      have hR9 := ((((((((((((((((((((((((((hx.r).cell (b := w.heap.size) (by omega) (by omega) 0 (.int .i64 z0))).cell (b := w.heap.size) (by omega) (by omega) 1 (.int .i64 z1))).cell (b := w.heap.size) (by omega) (by omega) 2 (.int .i64 2))).cell (b := w.heap.size) (by omega) (by omega) 3 (.int .i64 ck))).cell (b := w.heap.size) (by omega) (by omega) 4 (.int .i64 cs))).cell (b := w.heap.size) (by omega) (by omega) 5 (.int .i64 cq))).cell (b := w.heap.size) (by omega) (by omega) 6 (.string ckey))).cell (b := w.heap.size) (by omega) (by omega) 7 (.string cold))).cell (b := w.heap.size) (by omega) (by omega) 8 (.string cval))).cell (b := w.heap.size) (by omega) (by omega) 9 (.string cunt))).cell (b := w.heap.size) (by omega) (by omega) 10 (.int .i64 clim))).cell (b := w.heap.size) (by omega) (by omega) 11 (.slice none 0 0))).cell (b := w.heap.size) (by omega) (by omega) 12 (.slice none 0 0))
      have hG9 := (grown_new (b := w.heap.size) (grown_new (b := w.heap.size) (grown_new (b := w.heap.size) (grown_new (b := w.heap.size) (grown_new (b := w.heap.size) (grown_new (b := w.heap.size) (grown_new (b := w.heap.size) (grown_new (b := w.heap.size) (grown_new (b := w.heap.size) (grown_new (b := w.heap.size) (grown_new (b := w.heap.size) (grown_new (b := w.heap.size) (grown_new (b := w.heap.size) hx.g (by omega) 0 (.int .i64 z0)) (by omega) 1 (.int .i64 z1)) (by omega) 2 (.int .i64 2)) (by omega) 3 (.int .i64 ck)) (by omega) 4 (.int .i64 cs)) (by omega) 5 (.int .i64 cq)) (by omega) 6 (.string ckey)) (by omega) 7 (.string cold)) (by omega) 8 (.string cval)) (by omega) 9 (.string cunt)) (by omega) 10 (.int .i64 clim)) (by omega) 11 (.slice none 0 0)) (by omega) 12 (.slice none 0 0))
      have hO9 := ((((((((((((((((((((((((((hO).cell (b := w.heap.size) (by omega) 0 (.int .i64 z0))).cell (b := w.heap.size) (by omega) 1 (.int .i64 z1))).cell (b := w.heap.size) (by omega) 2 (.int .i64 2))).cell (b := w.heap.size) (by omega) 3 (.int .i64 ck))).cell (b := w.heap.size) (by omega) 4 (.int .i64 cs))).cell (b := w.heap.size) (by omega) 5 (.int .i64 cq))).cell (b := w.heap.size) (by omega) 6 (.string ckey))).cell (b := w.heap.size) (by omega) 7 (.string cold))).cell (b := w.heap.size) (by omega) 8 (.string cval))).cell (b := w.heap.size) (by omega) 9 (.string cunt))).cell (b := w.heap.size) (by omega) 10 (.int .i64 clim))).cell (b := w.heap.size) (by omega) 11 (.slice none 0 0))).cell (b := w.heap.size) (by omega) 12 (.slice none 0 0))
      exact bodyPost_ret (ret_one rfl _ _ w.heap.size _ _ _ _ rfl hF Tryz.underlying30 rfl (by kernel_rfl)) rfl ⟨⟨z0, z1, 2, ⟨ck, cs, cq, ckey, cold, cval, cunt, clim⟩, noFV⟩, ([], true), rfl, hO9.mono (by omega), HT.out, hR9, hG9⟩
  have e2' : (z2 == 2) = false := by simpa using e2
  by_cases e3 : z2 = 3
  · have HT0 : Hid (∀ f S', Tell10 (conf10 1000000 S3) f S' → Tell10 R ⟨z0, z1, 3, zeroC9, f⟩ S') := fun f S' ht => by
      rw [HC.out, e3, tail10_conf]
      exact Tell10.bind ht (.inl rfl) (fun _ => Stays.ret _) id
    have kc := rconfR_any w0 X2 rb S3 h3.r
    subst e3
    clear HC e2 e2'
    go_wp2_with fail
    refine kc.mono ?_
    rintro _ y5 ⟨X, S4, rfl, hO5, hT5, hl5⟩
    have h5 := h3.left hl5
    have HT1 : Hid (Tell10 R ⟨z0, z1, 3, zeroC9, X.f⟩ S4) := HT0.out _ _ hT5
    have hbl4 := box_lt h3.box
    clear kc h3 hl5 c2 hlb hT5 HT0
    obtain ⟨⟨p, n, c⟩, ⟨q, m, d⟩, f⟩ := X
    unfold ConfV.arr
    dsimp only
    have c11 := box_cell h5.box 11
    have c12 := box_cell h5.box 12
    have fb := frozen9 h5.box
    have hlb := box_lt h5.box
    go_upto_region 13 with fail
    have hx : RdX w0 w _ rb S4 30 #[.int .i64 z0, .int .i64 z1, .int .i64 3, .int .i64 0, .int .i64 0, .int .i64 0, .string em9, .string em9, .string em9, .string em9, .int .i64 0, .slice p n c, .slice q m d] #[.int .i64 0, .int .i64 0, .int .i64 0, .int .i64 0, .int .i64 0, .int .i64 0, .string em9, .string em9, .string em9, .string em9, .int .i64 0, .slice none 0 0, .slice none 0 0] := (h5.put 11 (.slice p n c) (by show 11 < 13; omega)).put 12 (.slice q m d) (by show 12 < 13; omega)
    have hO0 := ((hO5.cell (b := w.heap.size + 1) (by omega) 11 (.slice p n c)).cell (b := w.heap.size + 1) (by omega) 12 (.slice q m d)).mono (B' := w.heap.size + 1) (by omega)
    clear h5 hO5 c11 c12 fb hlb
    generalize (y5.setCell ⟨w.heap.size + 1, 11, none⟩ (.slice p n c)).setCell ⟨w.heap.size + 1, 12, none⟩ (.slice q m d) = X6 at *
    have hO : OwnsE X6 (w.heap.size + 1) ⟨z0, z1, 3, zeroC9, ⟨⟨p, n, c⟩, ⟨q, m, d⟩, f⟩⟩ := ⟨HI0.out, HI1.out, ⟨(by decide : (-9223372036854775808 : Int) ≤ 3), (by decide : (3 : Int) ≤ 9223372036854775807)⟩, fits_zeroC, hO0⟩
    clear hO0
    have c0 := box_cell hx.box 0
    have c1 := box_cell hx.box 1
    have c2 := box_cell hx.box 2
    have c3 := box_cell hx.box 3
    have c4 := box_cell hx.box 4
    have c5 := box_cell hx.box 5
    have c6 := box_cell hx.box 6
    have c7 := box_cell hx.box 7
    have c8 := box_cell hx.box 8
    have c9 := box_cell hx.box 9
    have c10 := box_cell hx.box 10
    have c11 := box_cell hx.box 11
    have c12 := box_cell hx.box 12
    have d0 := box_cell hx.res 0
    have d1 := box_cell hx.res 1
    have d2 := box_cell hx.res 2
    have d3 := box_cell hx.res 3
    have d4 := box_cell hx.res 4
    have d5 := box_cell hx.res 5
    have d6 := box_cell hx.res 6
    have d7 := box_cell hx.res 7
    have d8 := box_cell hx.res 8
    have d9 := box_cell hx.res 9
    have d10 := box_cell hx.res 10
    have d11 := box_cell hx.res 11
    have d12 := box_cell hx.res 12
    have fb := frozen9 hx.res
    have hlb := box_lt hx.box
    have hlr := box_lt hx.res
    go_wp2
    have hF := fillE (b := w.heap.size) (x0 := noEV) hx.res z0 z1 3 0 0 0 em9 em9 em9 em9 0 p n c q m d f
    have hR9 := ((((((((((((((((((((((((((hx.r).cell (b := w.heap.size) (by omega) (by omega) 0 (.int .i64 z0))).cell (b := w.heap.size) (by omega) (by omega) 1 (.int .i64 z1))).cell (b := w.heap.size) (by omega) (by omega) 2 (.int .i64 3))).cell (b := w.heap.size) (by omega) (by omega) 3 (.int .i64 0))).cell (b := w.heap.size) (by omega) (by omega) 4 (.int .i64 0))).cell (b := w.heap.size) (by omega) (by omega) 5 (.int .i64 0))).cell (b := w.heap.size) (by omega) (by omega) 6 (.string em9))).cell (b := w.heap.size) (by omega) (by omega) 7 (.string em9))).cell (b := w.heap.size) (by omega) (by omega) 8 (.string em9))).cell (b := w.heap.size) (by omega) (by omega) 9 (.string em9))).cell (b := w.heap.size) (by omega) (by omega) 10 (.int .i64 0))).cell (b := w.heap.size) (by omega) (by omega) 11 (.slice p n c))).cell (b := w.heap.size) (by omega) (by omega) 12 (.slice q m d))
    have hG9 := (grown_new (b := w.heap.size) (grown_new (b := w.heap.size) (grown_new (b := w.heap.size) (grown_new (b := w.heap.size) (grown_new (b := w.heap.size) (grown_new (b := w.heap.size) (grown_new (b := w.heap.size) (grown_new (b := w.heap.size) (grown_new (b := w.heap.size) (grown_new (b := w.heap.size) (grown_new (b := w.heap.size) (grown_new (b := w.heap.size) (grown_new (b := w.heap.size) hx.g (by omega) 0 (.int .i64 z0)) (by omega) 1 (.int .i64 z1)) (by omega) 2 (.int .i64 3)) (by omega) 3 (.int .i64 0)) (by omega) 4 (.int .i64 0)) (by omega) 5 (.int .i64 0)) (by omega) 6 (.string em9)) (by omega) 7 (.string em9)) (by omega) 8 (.string em9)) (by omega) 9 (.string em9)) (by omega) 10 (.int .i64 0)) (by omega) 11 (.slice p n c)) (by omega) 12 (.slice q m d))
    have hO9 := ((((((((((((((((((((((((((hO).cell (b := w.heap.size) (by omega) 0 (.int .i64 z0))).cell (b := w.heap.size) (by omega) 1 (.int .i64 z1))).cell (b := w.heap.size) (by omega) 2 (.int .i64 3))).cell (b := w.heap.size) (by omega) 3 (.int .i64 0))).cell (b := w.heap.size) (by omega) 4 (.int .i64 0))).cell (b := w.heap.size) (by omega) 5 (.int .i64 0))).cell (b := w.heap.size) (by omega) 6 (.string em9))).cell (b := w.heap.size) (by omega) 7 (.string em9))).cell (b := w.heap.size) (by omega) 8 (.string em9))).cell (b := w.heap.size) (by omega) 9 (.string em9))).cell (b := w.heap.size) (by omega) 10 (.int .i64 0))).cell (b := w.heap.size) (by omega) 11 (.slice p n c))).cell (b := w.heap.size) (by omega) 12 (.slice q m d))
    exact bodyPost_ret (ret_one rfl _ _ w.heap.size _ _ _ _ rfl hF Tryz.underlying30 rfl (by kernel_rfl)) rfl ⟨⟨z0, z1, 3, zeroC9, ⟨⟨p, n, c⟩, ⟨q, m, d⟩, f⟩⟩, S4, rfl, hO9.mono (by omega), HT1.out, hR9, hG9⟩
  have e3' : (z2 == 3) = false := by simpa using e3
  have HT : Hid (Tell10 R ⟨z0, z1, z2, zeroC9, noF10⟩ S3) := by
    refine Or.inl ?_
    rw [HC.out, tail10_else _ _ _ _ _ e2 e3]
  clear HC e2 e3 c2 hlb
  have hx := h3
  have c2 := box_cell hx.box 2
  have hlb := box_lt hx.box
  go_upto_region 13 with fail
  have hO : OwnsE X2 (w.heap.size + 1) ⟨z0, z1, z2, zeroC9, noFV⟩ := ⟨HI0.out, HI1.out, HI2.out, fits_zeroC, OwnsF.nil _ _⟩
  clear c2 hlb h3
  have c0 := box_cell hx.box 0
  have c1 := box_cell hx.box 1
  have c2 := box_cell hx.box 2
  have c3 := box_cell hx.box 3
  have c4 := box_cell hx.box 4
  have c5 := box_cell hx.box 5
  have c6 := box_cell hx.box 6
  have c7 := box_cell hx.box 7
  have c8 := box_cell hx.box 8
  have c9 := box_cell hx.box 9
  have c10 := box_cell hx.box 10
  have c11 := box_cell hx.box 11
  have c12 := box_cell hx.box 12
  have d0 := box_cell hx.res 0
  have d1 := box_cell hx.res 1
  have d2 := box_cell hx.res 2
  have d3 := box_cell hx.res 3
  have d4 := box_cell hx.res 4
  have d5 := box_cell hx.res 5
  have d6 := box_cell hx.res 6
  have d7 := box_cell hx.res 7
  have d8 := box_cell hx.res 8
  have d9 := box_cell hx.res 9
  have d10 := box_cell hx.res 10
  have d11 := box_cell hx.res 11
  have d12 := box_cell hx.res 12
  have fb := frozen9 hx.res
  have hlb := box_lt hx.box
  have hlr := box_lt hx.res
  go_wp2
  have hF := fillE (b := w.heap.size) (x0 := noEV) hx.res z0 z1 z2 0 0 0 em9 em9 em9 em9 0 none 0 0 none 0 0 noF10
  have hR9 := ((((((((((((((((((((((((((hx.r).cell (b := w.heap.size) (by omega) (by omega) 0 (.int .i64 z0))).cell (b := w.heap.size) (by omega) (by omega) 1 (.int .i64 z1))).cell (b := w.heap.size) (by omega) (by omega) 2 (.int .i64 z2))).cell (b := w.heap.size) (by omega) (by omega) 3 (.int .i64 0))).cell (b := w.heap.size) (by omega) (by omega) 4 (.int .i64 0))).cell (b := w.heap.size) (by omega) (by omega) 5 (.int .i64 0))).cell (b := w.heap.size) (by omega) (by omega) 6 (.string em9))).cell (b := w.heap.size) (by omega) (by omega) 7 (.string em9))).cell (b := w.heap.size) (by omega) (by omega) 8 (.string em9))).cell (b := w.heap.size) (by omega) (by omega) 9 (.string em9))).cell (b := w.heap.size) (by omega) (by omega) 10 (.int .i64 0))).cell (b := w.heap.size) (by omega) (by omega) 11 (.slice none 0 0))).cell (b := w.heap.size) (by omega) (by omega) 12 (.slice none 0 0))
  have hG9 := (grown_new (b := w.heap.size) (grown_new (b := w.heap.size) (grown_new (b := w.heap.size) (grown_new (b := w.heap.size) (grown_new (b := w.heap.size) (grown_new (b := w.heap.size) (grown_new (b := w.heap.size) (grown_new (b := w.heap.size) (grown_new (b := w.heap.size) (grown_new (b := w.heap.size) (grown_new (b := w.heap.size) (grown_new (b := w.heap.size) (grown_new (b := w.heap.size) hx.g (by omega) 0 (.int .i64 z0)) (by omega) 1 (.int .i64 z1)) (by omega) 2 (.int .i64 z2)) (by omega) 3 (.int .i64 0)) (by omega) 4 (.int .i64 0)) (by omega) 5 (.int .i64 0)) (by omega) 6 (.string em9)) (by omega) 7 (.string em9)) (by omega) 8 (.string em9)) (by omega) 9 (.string em9)) (by omega) 10 (.int .i64 0)) (by omega) 11 (.slice none 0 0)) (by omega) 12 (.slice none 0 0))
  have hO9 := ((((((((((((((((((((((((((hO).cell (b := w.heap.size) (by omega) 0 (.int .i64 z0))).cell (b := w.heap.size) (by omega) 1 (.int .i64 z1))).cell (b := w.heap.size) (by omega) 2 (.int .i64 z2))).cell (b := w.heap.size) (by omega) 3 (.int .i64 0))).cell (b := w.heap.size) (by omega) 4 (.int .i64 0))).cell (b := w.heap.size) (by omega) 5 (.int .i64 0))).cell (b := w.heap.size) (by omega) 6 (.string em9))).cell (b := w.heap.size) (by omega) 7 (.string em9))).cell (b := w.heap.size) (by omega) 8 (.string em9))).cell (b := w.heap.size) (by omega) 9 (.string em9))).cell (b := w.heap.size) (by omega) 10 (.int .i64 0))).cell (b := w.heap.size) (by omega) 11 (.slice none 0 0))).cell (b := w.heap.size) (by omega) 12 (.slice none 0 0))
  exact bodyPost_ret (ret_one rfl _ _ w.heap.size _ _ _ _ rfl hF Tryz.underlying30 rfl (by kernel_rfl)) rfl ⟨⟨z0, z1, z2, zeroC9, noFV⟩, S3, rfl, hO9.mono (by omega), HT.out, hR9, hG9⟩
end Go.Proofs.YtnbaoimjcaeeaaaGreat

/-
  Contracts: corbelref10.readSnap.
-/
namespace Go.Proofs.YtnbaoimjcaeeaaaGreat
open Go.RowKit Go.Shelf

theorem Has.grownB {w w' : World} {B r : Nat} {v : Value} {xs : List Int} (h : Has w v xs) (hk : ∀ k, v.ownBlock = some k → B ≤ k) (hg : w.grownBy w' (some r)) (hr : r < B) : Has w' v xs := by
  obtain ⟨p, c, rfl, h1, h2, h3⟩ := h
  refine ⟨p, c, rfl, h1, h2, fun h0 => ?_⟩
  obtain ⟨b, o, rfl, hb, hc⟩ := h3 h0
  have hB := hk b rfl
  refine ⟨b, o, rfl, Nat.lt_of_lt_of_le hb hg.size, fun i hi => ?_⟩
  rw [← hc i hi]
  unfold World.cell?
  dsimp only
  rw [hg.block b hb (by intro e; have := Option.some.inj e; omega)]
/-- A snapshot that the call made; its bytes lie in a block of their own. -/
structure LiesS (w : World) (B : Nat) (x : SnapV) : Prop where
  i : inI x.i
  t : inI x.t
  f : OwnsF w B x.f
  w : Has w (.slice x.w.p x.w.n x.w.c) x.d
  k : ∀ k, Value.ownBlock (.slice x.w.p x.w.n x.w.c) = some k → B ≤ k
  b : IsB x.d
  l : x.d.length ≤ 1073741824
theorem LiesS.fits {w : World} {B : Nat} {x : SnapV} (h : LiesS w B x) : FitsS w x := ⟨h.i, h.t, h.f.fits, h.w, h.b, Nat.le_trans h.l (by decide)⟩
theorem LiesS.mono {w : World} {B B' : Nat} {x : SnapV} (h : LiesS w B x) (hB : B' ≤ B) : LiesS w B' x := ⟨h.i, h.t, h.f.mono hB, h.w, fun k hk => Nat.le_trans hB (h.k k hk), h.b, h.l⟩
theorem LiesS.kept {w w' : World} {B r : Nat} {x : SnapV} (h : LiesS w B x) (hg : w.grownBy w' (some r)) (hr : r < B) : LiesS w' B x := ⟨h.i, h.t, h.f.kept hg hr, h.w.grownB h.k hg hr, h.k, h.b, h.l⟩
theorem LiesS.cell {w : World} {B b : Nat} {x : SnapV} (h : LiesS w B x) (hb : b < B) (i : Nat) (v : Value) : LiesS (w.setCell ⟨b, i, none⟩ v) B x := h.kept (grown_set w b i v) hb
theorem LiesS.below {w w' : World} {B : Nat} {x : SnapV} (h : LiesS w B x) (hb : Below w.heap.size w w') : LiesS w' B x := ⟨h.i, h.t, h.f.below hb, h.w.below hb (Nat.le_refl _), h.k, h.b, h.l⟩
theorem LiesS.nil (w : World) (B : Nat) : LiesS w B noSV := ⟨⟨by decide, by decide⟩, ⟨by decide, by decide⟩, OwnsF.nil w B, Has.nil w, (fun _ h => by cases h), IsB.nil, Nat.zero_le _⟩
/-- What the document's reader of a snapshot leaves. -/
def TellsS (w0 w : World) (rb : Nat) (R : Snap10 × St) (e : Ending) (w' : World) : Prop := ∃ (X : SnapV) (S' : St), e = .returned (.agg X.arr) ∧ LiesS w' w.heap.size X ∧ Tell10 R X.s S' ∧ Left10 w0 w rb S' w'
theorem snap10_tell {m : Int} {S0 S1 S2 S3 : St} {i t : Int} {f : Conf10} (e0 : int9 S0 = (i, S1)) (e1 : int9 S1 = (t, S2)) (ht : Tell10 (conf10 m S2) f S3) : Tell10 (snap10 m S0) ⟨i, t, f, (byt10 S3).1⟩ (byt10 S3).2 := by
  rw [snap10_bind, bindR_eq e0, bindR_eq e1]
  exact Tell10.bind ht (.inl rfl) (fun _ => stays_byt.bind fun _ => Stays.ret _) fun hw => stays_byt _ hw


set_option maxRecDepth 100000 in
set_option maxHeartbeats 4000000 in
theorem rsnapR_any (w0 w : World) (rb : Nat) (S0 : St) (h : Rdr w0 w rb S0) :
    Calls Tryz.prog 40 #[.pointer (some ⟨rb, 0, none⟩)] w (TellsS w0 w rb (snap10 1000000 S0)) := by
  have h0 : RdX w0 w _ rb S0 43 #[.int .i64 0, .int .i64 0, .slice none 0 0, .slice none 0 0, .slice none 0 0] #[.int .i64 0, .int .i64 0, .slice none 0 0, .slice none 0 0, .slice none 0 0] := RdX.new h 43 #[.int .i64 0, .int .i64 0, .slice none 0 0, .slice none 0 0, .slice none 0 0]
  have hrl := h.lt
  clear h
  generalize hR : snap10 1000000 S0 = R
  have HR : Hid (snap10 1000000 S0 = R) := hR
  clear hR
  go_enter Tryz.func40, Tryz.ntmps40
  have ki0 := h0.r.rint
  have HI0 : Hid (inI (int9 S0).1) := int9_in _
  go_wp2_with fail
  refine ki0.mono ?_
  rintro _ y0 ⟨rfl, hl0⟩
  have g0 := h0.left hl0
  clear h0 ki0 hl0
  generalize hA : int9 S0 = A at *
  obtain ⟨z0, S1⟩ := A
  have E0 : Hid (int9 S0 = (z0, S1)) := hA
  clear hA
  dsimp only at g0 HI0
  have c0 := box_cell g0.box 0
  have fb := frozen9 g0.box
  have hlb := box_lt g0.box
  go_upto_region 3 with fail
  have h1 : RdX w0 w _ rb S1 43 #[.int .i64 z0, .int .i64 0, .slice none 0 0, .slice none 0 0, .slice none 0 0] #[.int .i64 0, .int .i64 0, .slice none 0 0, .slice none 0 0, .slice none 0 0] := g0.put 0 (.int .i64 z0) (by show 0 < 5; omega)
  clear g0 c0 fb hlb
  generalize y0.setCell ⟨w.heap.size + 1, 0, none⟩ (.int .i64 z0) = X0 at *
  have ki1 := h1.r.rint
  have HI1 : Hid (inI (int9 S1).1) := int9_in _
  go_wp2_with fail
  refine ki1.mono ?_
  rintro _ y1 ⟨rfl, hl1⟩
  have g1 := h1.left hl1
  clear h1 ki1 hl1
  generalize hA : int9 S1 = A at *
  obtain ⟨z1, S2⟩ := A
  have E1 : Hid (int9 S1 = (z1, S2)) := hA
  clear hA
  dsimp only at g1 HI1
  have c1 := box_cell g1.box 1
  have fb := frozen9 g1.box
  have hlb := box_lt g1.box
  go_upto_region 4 with fail
  have h2 : RdX w0 w _ rb S2 43 #[.int .i64 z0, .int .i64 z1, .slice none 0 0, .slice none 0 0, .slice none 0 0] #[.int .i64 0, .int .i64 0, .slice none 0 0, .slice none 0 0, .slice none 0 0] := g1.put 1 (.int .i64 z1) (by show 1 < 5; omega)
  clear g1 c1 fb hlb
  generalize y1.setCell ⟨w.heap.size + 1, 1, none⟩ (.int .i64 z1) = X1 at *
  have kc := rconfR_any w0 X1 rb S2 h2.r
  have hb3 := box_lt h2.box
  go_wp2_with fail
  refine kc.mono ?_
  rintro _ y4 ⟨X, S3, rfl, hO4, hT4, hl4⟩
  have h4 := h2.left hl4
  have HT : Hid (Tell10 R ⟨z0, z1, X.f, (byt10 S3).1⟩ (byt10 S3).2) := by
    rw [Hid, ← HR.out]
    exact snap10_tell E0.out E1.out hT4
  clear kc h2 hl4 hT4 HR E0 E1
  obtain ⟨⟨p, n, c⟩, ⟨q, m, d⟩, f⟩ := X
  unfold ConfV.arr
  dsimp only at HT ⊢
  have c2 := box_cell h4.box 2
  have c3 := box_cell h4.box 3
  have fb := frozen9 h4.box
  have hlb := box_lt h4.box
  go_upto_region 5 with fail
  have h5 : RdX w0 w _ rb S3 43 #[.int .i64 z0, .int .i64 z1, .slice p n c, .slice q m d, .slice none 0 0] #[.int .i64 0, .int .i64 0, .slice none 0 0, .slice none 0 0, .slice none 0 0] := (h4.put 2 (.slice p n c) (by show 2 < 5; omega)).put 3 (.slice q m d) (by show 3 < 5; omega)
  have hO5 := ((hO4.cell (b := w.heap.size + 1) (by omega) 2 (.slice p n c)).cell (b := w.heap.size + 1) (by omega) 3 (.slice q m d)).mono (B' := w.heap.size + 1 + 1) (by omega)
  clear h4 hO4 c2 c3 fb hlb
  generalize (y4.setCell ⟨w.heap.size + 1, 2, none⟩ (.slice p n c)).setCell ⟨w.heap.size + 1, 3, none⟩ (.slice q m d) = X5 at *
  have kt := h5.r.rtext
  have HB : Hid (IsB (byt10 S3).1) := byt10_isB h5.r.isb
  have HLen : Hid ((byt10 S3).1.length ≤ 1073741824) := Nat.le_trans (byt10_len S3) h5.r.len
  have HTx : Hid (strB (strOfNums (byt10 S3).1) = (byt10 S3).1) := strB_of HB.out
  generalize byt10 S3 = A at *
  obtain ⟨xs, S4⟩ := A
  dsimp only at kt HT HB HLen HTx
  generalize strOfNums xs = sx at *
  have hlb5 := box_lt h5.box
  go_wp2_with fail
  refine kt.mono ?_
  rintro _ w6 ⟨rfl, hl6⟩
  have h6 := h5.left hl6
  have hO6 := hO5.kept hl6.2 (by omega)
  have hcv := Lib.run_convert_string_bytes (P := Tryz.prog) w6 9 22 5 sx (u := .string) Tryz.underlying9 Tryz.underlying22 Tryz.underlying5
  obtain ⟨hH, hb7⟩ := bytes_has w6 sx
  rw [HTx.out] at hH
  have h7 := h6.more hb7
  have hO7 := hO6.below hb7
  have hlb6 := box_lt h6.box
  clear kt h5 hO5 hl6 h6 hO6 hb7 HTx hlb5
  generalize Lib.bytesWorld w6 5 sx = W7 at *
  generalize grownCap w6 sx.size 0 5 = e0 at *
  generalize sx.size = b0 at *
  generalize hbb : w6.heap.size = bb at *
  have hbb2 : w.heap.size + 1 < bb := by omega
  clear hbb
  have c4 := box_cell h7.box 4
  have fb := frozen9 h7.box
  have hlb := box_lt h7.box
  go_upto_region 6 with fail
  have hx : RdX w0 w _ rb S4 43 #[.int .i64 z0, .int .i64 z1, .slice p n c, .slice q m d, .slice (some ⟨bb, 0, none⟩) b0 e0] #[.int .i64 0, .int .i64 0, .slice none 0 0, .slice none 0 0, .slice none 0 0] := h7.put 4 (.slice (some ⟨bb, 0, none⟩) b0 e0) (by show 4 < 5; omega)
  have hS7 : LiesS W7 (w.heap.size + 1 + 1) ⟨z0, z1, ⟨⟨p, n, c⟩, ⟨q, m, d⟩, f⟩, ⟨some ⟨bb, 0, none⟩, b0, e0⟩, xs⟩ := ⟨HI0.out, HI1.out, hO7, hH, (fun k hk => by have := Option.some.inj hk; dsimp only at this; omega), HB.out, HLen.out⟩
  have hS9 := hS7.cell (b := w.heap.size + 1) (by omega) 4 (.slice (some ⟨bb, 0, none⟩) b0 e0)
  clear h7 hO7 hH c4 fb hlb hS7 hcv
  generalize ha : some (⟨bb, 0, none⟩ : Addr) = a at *
  clear ha
  generalize W7.setCell ⟨w.heap.size + 1, 4, none⟩ (.slice a b0 e0) = X9 at *
  have c0 := box_cell hx.box 0
  have d0 := box_cell hx.res 0
  have c1 := box_cell hx.box 1
  have d1 := box_cell hx.res 1
  have c2 := box_cell hx.box 2
  have d2 := box_cell hx.res 2
  have c3 := box_cell hx.box 3
  have d3 := box_cell hx.res 3
  have c4 := box_cell hx.box 4
  have d4 := box_cell hx.res 4
  have fb := frozen9 hx.res
  have hlb := box_lt hx.box
  have hlr := box_lt hx.res
  go_wp2
  have hF := fillS (b := w.heap.size) (x0 := noSV) hx.res z0 z1 p n c q m d a b0 e0 f xs
  have hR9 := ((((((((((hx.r).cell (b := w.heap.size) (by omega) (by omega) 0 (.int .i64 z0))).cell (b := w.heap.size) (by omega) (by omega) 1 (.int .i64 z1))).cell (b := w.heap.size) (by omega) (by omega) 2 (.slice p n c))).cell (b := w.heap.size) (by omega) (by omega) 3 (.slice q m d))).cell (b := w.heap.size) (by omega) (by omega) 4 (.slice a b0 e0))
  have hG9 := (grown_new (b := w.heap.size) (grown_new (b := w.heap.size) (grown_new (b := w.heap.size) (grown_new (b := w.heap.size) (grown_new (b := w.heap.size) hx.g (by omega) 0 (.int .i64 z0)) (by omega) 1 (.int .i64 z1)) (by omega) 2 (.slice p n c)) (by omega) 3 (.slice q m d)) (by omega) 4 (.slice a b0 e0))
  have hO9 := ((((((((((hS9).cell (b := w.heap.size) (by omega) 0 (.int .i64 z0))).cell (b := w.heap.size) (by omega) 1 (.int .i64 z1))).cell (b := w.heap.size) (by omega) 2 (.slice p n c))).cell (b := w.heap.size) (by omega) 3 (.slice q m d))).cell (b := w.heap.size) (by omega) 4 (.slice a b0 e0))
  exact bodyPost_ret (ret_one rfl _ _ w.heap.size _ _ _ _ rfl hF Tryz.underlying43 rfl (by kernel_rfl)) rfl ⟨⟨z0, z1, ⟨⟨p, n, c⟩, ⟨q, m, d⟩, f⟩, ⟨a, b0, e0⟩, xs⟩, S4, rfl, hO9.mono (by omega), HT.out, hR9, hG9⟩
end Go.Proofs.YtnbaoimjcaeeaaaGreat
