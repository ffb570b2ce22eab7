import Derived.Test.YtnbaoimjcaeeaaaEo2To
import Derived.Test.YtnbaoimjcaeeaaaEn6To
import Derived.Test.YtnbaoimjcaeeaaaEn9To
import Derived.Deep.RegionLaw
/-
  Contracts: what reads of entry tell: hard, entry.
-/
namespace Go.Proofs.Ytnbaoimjcaeeaaa
open Go.RowKit Go.Shelf

/-- A reader, a box that is being filled, and the result's: they were made in this order behind w. -/
structure RdX (w0 w wc : World) (rb : Nat) (S : St) (T : TypeId) (a z : Array Value) : Prop where
  r : Rdr w0 wc rb S
  box : wc.heap[w.heap.size + 1]? = some (.cells a T (0, 0))
  res : wc.heap[w.heap.size]? = some (.cells z T (0, 0))
  g : w.grownBy wc (some rb)
  lt : rb < w.heap.size
  le : w0.heap.size ≤ rb
theorem RdX.new {w0 w : World} {rb : Nat} {S : St} (h : Rdr w0 w rb S) (T : TypeId) (z : Array Value) : RdX w0 w ((w.alloc (.cells z T)).alloc (.cells z T)) rb S T z z := by
  have hb1 : Below w.heap.size w (w.alloc (.cells z T)) := (Below.refl _ _).alloc (Nat.le_refl _) _
  have hz1 : (w.alloc (.cells z T)).heap.size = w.heap.size + 1 := by simp
  have hb2 := (Below.refl _ (w.alloc (.cells z T))).alloc (Nat.le_refl _) (.cells z T)
  have hn := heap_alloc_new (w.alloc (.cells z T)) (.cells z T)
  rw [hz1] at hn
  exact ⟨(h.more hb1).more hb2, hn, box_below (heap_alloc_new w _) hb2, grown_after hb1 (below_grownBy hb2), h.lt.2, h.lt.1⟩
theorem RdX.left {w0 w wc wd : World} {rb : Nat} {S S' : St} {T : TypeId} {a z : Array Value} (h : RdX w0 w wc rb S T a z) (hl : Left10 w0 wc rb S' wd) : RdX w0 w wd rb S' T a z := by
  have := h.lt
  exact ⟨hl.1, grown_box hl.2 h.box (by omega), grown_box hl.2 h.res (by omega), grown_trans h.g hl.2, h.lt, h.le⟩
theorem RdX.put {w0 w wc : World} {rb : Nat} {S : St} {T : TypeId} {a z : Array Value} (h : RdX w0 w wc rb S T a z) (i : Nat) (v : Value) (hi : i < a.size) : RdX w0 w (wc.setCell ⟨w.heap.size + 1, i, none⟩ v) rb S T (a.set i v hi) z := by
  have h1 := h.lt
  have h2 := h.le
  refine ⟨h.r.cell (by omega) (by omega) i v, set_block9 h.box i v hi, ?_, grown_new h.g (by omega) i v, h.lt, h.le⟩
  exact grown_box (grown_set wc (w.heap.size + 1) i v) h.res (by omega)
theorem RdX.more {w0 w wc wd : World} {rb : Nat} {S : St} {T : TypeId} {a z : Array Value} (h : RdX w0 w wc rb S T a z) (hb : Below wc.heap.size wc wd) : RdX w0 w wd rb S T a z :=
  ⟨h.r.more hb, box_below h.box hb, box_below h.res hb, grown_trans h.g (below_grownBy hb), h.lt, h.le⟩
theorem ptail10_cmd (i t : Int) (S : St) : ptail10 i t 2 S = (⟨i, t, 2, (readC9 (byt10 S).1).1, noF10⟩, (byt10 S).2) := by
  unfold ptail10 bindR retR
  rw [if_pos rfl]
theorem ptail10_conf (i t : Int) (S : St) : ptail10 i t 3 S = (⟨i, t, 3, zeroC9, (conf10 9 S).1⟩, (conf10 9 S).2) := by
  unfold ptail10 bindR retR
  rw [if_neg (by decide), if_pos rfl]
theorem ptail10_else (i t k : Int) (S : St) (h2 : k ≠ 2) (h3 : k ≠ 3) : ptail10 i t k S = (⟨i, t, k, zeroC9, noF10⟩, S) := by
  unfold ptail10 bindR retR
  rw [if_neg h2, if_neg h3]
theorem bindR_def {α β : Type} (f : St → α × St) (g : α → St → β × St) (s : St) : bindR f g s = g (f s).1 (f s).2 := rfl
theorem pent10_is (S : St) : pent10 S = ptail10 (int9 S).1 (int9 (int9 S).2).1 (int9 (int9 (int9 S).2).2).1 (int9 (int9 (int9 S).2).2).2 := by
  unfold pent10
  rw [bindR_def, bindR_def, bindR_def]
theorem hard10_is (S : St) : hard10 S = (⟨(int9 S).1, (int9 (int9 S).2).1, (int9 (int9 (int9 S).2).2).1⟩, (int9 (int9 (int9 S).2).2).2) := by
  unfold hard10
  rfl


set_option maxRecDepth 100000 in
set_option maxHeartbeats 2000000 in
theorem hardR_any (w0 w : World) (rb : Nat) (S : St) (h : Rdr w0 w rb S) :
    Calls Try.prog 52 #[.pointer (some ⟨rb, 0, none⟩)] w fun e w' => e = .returned (.agg (hard10 S).1.arr) ∧ Left10 w0 w rb (hard10 S).2 w' := by
  have hmf : ∀ (fn : Fn) (first cap : Array Value) (w : World), (Instr.makeFunc fn first cap).run Try.prog w = .ok (.func fn first cap) w := fun _ _ _ _ => rfl
  have h0 : RdX w0 w _ rb S 41 #[.int .i64 0, .int .i64 0, .int .i64 0] #[.int .i64 0, .int .i64 0, .int .i64 0] := RdX.new h 41 #[.int .i64 0, .int .i64 0, .int .i64 0]
  have HC : Hid (hard10 S = (⟨(int9 S).1, (int9 (int9 S).2).1, (int9 (int9 (int9 S).2).2).1⟩, (int9 (int9 (int9 S).2).2).2)) := hard10_is S
  generalize hard10 S = R at *
  have hrl := h.lt
  clear h
  revert h0 HC
  generalize S = S0
  intro h0 HC
  go_enter Try.func52, Try.ntmps52
  have ki0 := h0.r.int
  go_wp2_with fail
  refine ki0.mono ?_
  rintro _ y0 ⟨rfl, hl0⟩
  have h1 := h0.left hl0
  clear h0 ki0 hl0
  generalize int9 S0 = A at *
  obtain ⟨z0, S1⟩ := A
  dsimp only at h1 HC
  have ki1 := h1.r.int
  go_wp2_with fail
  refine ki1.mono ?_
  rintro _ y1 ⟨rfl, hl1⟩
  have h2 := h1.left hl1
  clear h1 ki1 hl1
  generalize int9 S1 = A at *
  obtain ⟨z1, S2⟩ := A
  dsimp only at h2 HC
  have ki2 := h2.r.int
  go_wp2_with fail
  refine ki2.mono ?_
  rintro _ y2 ⟨rfl, hl2⟩
  have h3 := h2.left hl2
  clear h2 ki2 hl2
  generalize int9 S2 = A at *
  obtain ⟨z2, S3⟩ := A
  dsimp only at h3 HC

  have c0 := box_cell h3.box 0
  have c1 := box_cell h3.box 1
  have c2 := box_cell h3.box 2
  have fb := frozen9 h3.box
  have hlb := box_lt h3.box
  go_upto_region 4 with fail
  have h4 : RdX w0 w _ rb S3 41 #[.int .i64 z0, .int .i64 z1, .int .i64 z2] #[.int .i64 0, .int .i64 0, .int .i64 0] := ((h3.put 0 (.int .i64 z0) (by show 0 < 3; omega)).put 1 (.int .i64 z1) (by show 1 < 3; omega)).put 2 (.int .i64 z2) (by show 2 < 3; omega)
  clear h3 c0 c1 c2 fb hlb
  generalize ((y2.setCell ⟨w.heap.size + 1, 0, none⟩ (.int .i64 z0)).setCell ⟨w.heap.size + 1, 1, none⟩ (.int .i64 z1)).setCell ⟨w.heap.size + 1, 2, none⟩ (.int .i64 z2) = X4 at *
  have c0 := box_cell h4.box 0
  have c1 := box_cell h4.box 1
  have c2 := box_cell h4.box 2
  have d0 := box_cell h4.res 0
  have d1 := box_cell h4.res 1
  have d2 := box_cell h4.res 2
  have fb := frozen9 h4.res
  have hlb := box_lt h4.box
  have hlr := box_lt h4.res
  go_wp2
  have hF := fillH (b := w.heap.size) (x0 := ⟨0, 0, 0⟩) h4.res z0 z1 z2
  have hR9 := ((((((h4.r).cell (b := w.heap.size) (by omega) (by omega) 0 (.int .i64 z0))).cell (b := w.heap.size) (by omega) (by omega) 1 (.int .i64 z1))).cell (b := w.heap.size) (by omega) (by omega) 2 (.int .i64 z2))
  have hG9 := (grown_new (b := w.heap.size) (grown_new (b := w.heap.size) (grown_new (b := w.heap.size) h4.g (by omega) 0 (.int .i64 z0)) (by omega) 1 (.int .i64 z1)) (by omega) 2 (.int .i64 z2))
  refine bodyPost_ret (ret_one rfl _ _ w.heap.size _ _ _ _ rfl hF Try.underlying41 rfl (by kernel_rfl)) rfl ⟨?_, ?_, hG9⟩
  · rw [HC.out]
  · rw [HC.out]; exact hR9

theorem strOf_size (l : List Int) : (strOfNums l).size = l.length := by
  show (strOfNums l).data.size = l.length
  rw [← Array.length_toList, strOfNums_data, List.length_map]
theorem txt9_size (S : St) : (txt9 S).1.size ≤ S.1.length := by
  unfold txt9
  dsimp only
  rw [strOf_size]
  exact (getTextS_bd S.1).2
theorem txt9_len (S : St) : (txt9 S).2.1.length ≤ S.1.length := loseS_length _ _ _
theorem int9_len (S : St) : (int9 S).2.1.length ≤ S.1.length := loseS_length _ _ _
theorem readC9_fits (xs : List Int) (h : xs.length ≤ 140737488351232) : Fits9 (readC9 xs).1 := by
  unfold readC9
  split
  · unfold rdC9
    dsimp only
    have a0 := int9_len (xs, false)
    have a1 := int9_len (int9 (xs, false)).2
    have a2 := int9_len (int9 (int9 (xs, false)).2).2
    have a3 := int9_len (int9 (int9 (int9 (xs, false)).2).2).2
    have b0 := txt9_size (int9 (int9 (int9 (int9 (xs, false)).2).2).2).2
    have a4 := txt9_len (int9 (int9 (int9 (int9 (xs, false)).2).2).2).2
    have b1 := txt9_size (txt9 (int9 (int9 (int9 (int9 (xs, false)).2).2).2).2).2
    have a5 := txt9_len (txt9 (int9 (int9 (int9 (int9 (xs, false)).2).2).2).2).2
    have b2 := txt9_size (txt9 (txt9 (int9 (int9 (int9 (int9 (xs, false)).2).2).2).2).2).2
    have a6 := txt9_len (txt9 (txt9 (int9 (int9 (int9 (int9 (xs, false)).2).2).2).2).2).2
    have b3 := txt9_size (txt9 (txt9 (txt9 (int9 (int9 (int9 (int9 (xs, false)).2).2).2).2).2).2).2
    dsimp only at a0
    exact ⟨by dsimp only; omega, by dsimp only; omega, by dsimp only; omega, by dsimp only; omega, int9_in _, int9_in _, int9_in _, int9_in _⟩
  · exact fits_zeroC

set_option maxRecDepth 100000 in
set_option maxHeartbeats 4000000 in
theorem entryR_any (w0 w : World) (rb : Nat) (S : St) (h : Rdr w0 w rb S) :
    Calls Try.prog 50 #[.pointer (some ⟨rb, 0, none⟩)] w fun e w' => ∃ X : EntV, e = .returned (.agg X.arr) ∧ X.e = (pent10 S).1 ∧ OwnsF w' w.heap.size X.f ∧ Fits9 X.c ∧ Left10 w0 w rb (pent10 S).2 w' := by
  have hmf : ∀ (fn : Fn) (first cap : Array Value) (w : World), (Instr.makeFunc fn first cap).run Try.prog w = .ok (.func fn first cap) w := fun _ _ _ _ => rfl
  have h0 : RdX w0 w _ rb S 28 #[.int .i64 0, .int .i64 0, .int .i64 0, .int .i64 0, .int .i64 0, .int .i64 0, .string em9, .string em9, .string em9, .string em9, .int .i64 0, .slice none 0 0, .slice none 0 0] #[.int .i64 0, .int .i64 0, .int .i64 0, .int .i64 0, .int .i64 0, .int .i64 0, .string em9, .string em9, .string em9, .string em9, .int .i64 0, .slice none 0 0, .slice none 0 0] := RdX.new h 28 #[.int .i64 0, .int .i64 0, .int .i64 0, .int .i64 0, .int .i64 0, .int .i64 0, .string em9, .string em9, .string em9, .string em9, .int .i64 0, .slice none 0 0, .slice none 0 0]
  have HC : Hid (pent10 S = ptail10 (int9 S).1 (int9 (int9 S).2).1 (int9 (int9 (int9 S).2).2).1 (int9 (int9 (int9 S).2).2).2) := pent10_is S
  generalize pent10 S = R at *
  have hrl := h.lt
  clear h
  revert h0 HC
  generalize S = S0
  intro h0 HC
  go_enter Try.func50, Try.ntmps50
  have ki0 := h0.r.int
  go_wp2_with fail
  refine ki0.mono ?_
  rintro _ y0 ⟨rfl, hl0⟩
  have h1 := h0.left hl0
  clear h0 ki0 hl0
  generalize int9 S0 = A at *
  obtain ⟨z0, S1⟩ := A
  dsimp only at h1 HC
  have ki1 := h1.r.int
  go_wp2_with fail
  refine ki1.mono ?_
  rintro _ y1 ⟨rfl, hl1⟩
  have h2 := h1.left hl1
  clear h1 ki1 hl1
  generalize int9 S1 = A at *
  obtain ⟨z1, S2⟩ := A
  dsimp only at h2 HC
  have ki2 := h2.r.int
  go_wp2_with fail
  refine ki2.mono ?_
  rintro _ y2 ⟨rfl, hl2⟩
  have h3 := h2.left hl2
  clear h2 ki2 hl2
  generalize int9 S2 = A at *
  obtain ⟨z2, S3⟩ := A
  dsimp only at h3 HC

  have c0 := box_cell h3.box 0
  have c1 := box_cell h3.box 1
  have c2 := box_cell h3.box 2
  have fb := frozen9 h3.box
  have hlb := box_lt h3.box
  go_upto_region 4 with fail
  have h4 : RdX w0 w _ rb S3 28 #[.int .i64 z0, .int .i64 z1, .int .i64 z2, .int .i64 0, .int .i64 0, .int .i64 0, .string em9, .string em9, .string em9, .string em9, .int .i64 0, .slice none 0 0, .slice none 0 0] #[.int .i64 0, .int .i64 0, .int .i64 0, .int .i64 0, .int .i64 0, .int .i64 0, .string em9, .string em9, .string em9, .string em9, .int .i64 0, .slice none 0 0, .slice none 0 0] := ((h3.put 0 (.int .i64 z0) (by show 0 < 13; omega)).put 1 (.int .i64 z1) (by show 1 < 13; omega)).put 2 (.int .i64 z2) (by show 2 < 13; omega)
  clear h3 c0 c1 c2 fb hlb
  generalize ((y2.setCell ⟨w.heap.size + 1, 0, none⟩ (.int .i64 z0)).setCell ⟨w.heap.size + 1, 1, none⟩ (.int .i64 z1)).setCell ⟨w.heap.size + 1, 2, none⟩ (.int .i64 z2) = X4 at *
  have c2 := box_cell h4.box 2
  have hlb := box_lt h4.box
  have hws := h4.g.size
  by_cases e2 : z2 = 2
  · have HT : Hid (R = (⟨z0, z1, 2, (readC9 (byt10 S3).1).1, noF10⟩, (byt10 S3).2)) := by
      rw [Hid, HC.out, e2, ptail10_cmd]
    have kc := cmdR_any w0 X4 rb S3 h4.r
    have HFit : Hid (Fits9 (readC9 (byt10 S3).1).1) := readC9_fits _ (by have := byt10_len S3; have := h4.r.len; omega)
    generalize byt10 S3 = A at *
    obtain ⟨xs, S4⟩ := A
    dsimp only at kc HT HFit
    generalize (readC9 xs).1 = cc at *
    obtain ⟨ck, cs, cq, ckey, cold, cval, cunt, clim⟩ := cc
    subst e2
    unfold Cmd9.arr at kc
    dsimp only at kc
    clear HC
    go_wp2_with fail
    refine kc.mono ?_
    rintro _ y5 ⟨rfl, hl5⟩
    have h5 := h4.left hl5
    clear kc h4 hl5 c2 hlb
    have c3 := box_cell h5.box 3
    have c4 := box_cell h5.box 4
    have c5 := box_cell h5.box 5
    have c6 := box_cell h5.box 6
    have c7 := box_cell h5.box 7
    have c8 := box_cell h5.box 8
    have c9 := box_cell h5.box 9
    have c10 := box_cell h5.box 10
    have fb := frozen9 h5.box
    have hlb := box_lt h5.box
    go_upto_region 9 with fail
    have hx : RdX w0 w _ rb S4 28 #[.int .i64 z0, .int .i64 z1, .int .i64 2, .int .i64 ck, .int .i64 cs, .int .i64 cq, .string ckey, .string cold, .string cval, .string cunt, .int .i64 clim, .slice none 0 0, .slice none 0 0] #[.int .i64 0, .int .i64 0, .int .i64 0, .int .i64 0, .int .i64 0, .int .i64 0, .string em9, .string em9, .string em9, .string em9, .int .i64 0, .slice none 0 0, .slice none 0 0] := (((((((h5.put 3 (.int .i64 ck) (by show 3 < 13; omega)).put 4 (.int .i64 cs) (by show 4 < 13; omega)).put 5 (.int .i64 cq) (by show 5 < 13; omega)).put 6 (.string ckey) (by show 6 < 13; omega)).put 7 (.string cold) (by show 7 < 13; omega)).put 8 (.string cval) (by show 8 < 13; omega)).put 9 (.string cunt) (by show 9 < 13; omega)).put 10 (.int .i64 clim) (by show 10 < 13; omega)
    clear h5 c3 c4 c5 c6 c7 c8 c9 c10 fb hlb
    generalize (((((((y5.setCell ⟨w.heap.size + 1, 3, none⟩ (.int .i64 ck)).setCell ⟨w.heap.size + 1, 4, none⟩ (.int .i64 cs)).setCell ⟨w.heap.size + 1, 5, none⟩ (.int .i64 cq)).setCell ⟨w.heap.size + 1, 6, none⟩ (.string ckey)).setCell ⟨w.heap.size + 1, 7, none⟩ (.string cold)).setCell ⟨w.heap.size + 1, 8, none⟩ (.string cval)).setCell ⟨w.heap.size + 1, 9, none⟩ (.string cunt)).setCell ⟨w.heap.size + 1, 10, none⟩ (.int .i64 clim) = X6 at *
    have hO := OwnsF.nil X6 (w.heap.size + 1)
    have c0 := box_cell hx.box 0
    have c1 := box_cell hx.box 1
    have c2 := box_cell hx.box 2
    have c3 := box_cell hx.box 3
    have c4 := box_cell hx.box 4
    have c5 := box_cell hx.box 5
    have c6 := box_cell hx.box 6
    have c7 := box_cell hx.box 7
    have c8 := box_cell hx.box 8
    have c9 := box_cell hx.box 9
    have c10 := box_cell hx.box 10
    have c11 := box_cell hx.box 11
    have c12 := box_cell hx.box 12
    have d0 := box_cell hx.res 0
    have d1 := box_cell hx.res 1
    have d2 := box_cell hx.res 2
    have d3 := box_cell hx.res 3
    have d4 := box_cell hx.res 4
    have d5 := box_cell hx.res 5
    have d6 := box_cell hx.res 6
    have d7 := box_cell hx.res 7
    have d8 := box_cell hx.res 8
    have d9 := box_cell hx.res 9
    have d10 := box_cell hx.res 10
    have d11 := box_cell hx.res 11
    have d12 := box_cell hx.res 12
    have fb := frozen9 hx.res
    have hlb := box_lt hx.box
    have hlr := box_lt hx.res
    go_wp2
    have hF := fillE (b := w.heap.size) (x0 := noEV) hx.res z0 z1 2 ck cs cq ckey cold cval cunt clim none 0 0 none 0 0 noF10
    have hR9 := ((((((((((((((((((((((((((hx.r).cell (b := w.heap.size) (by omega) (by omega) 0 (.int .i64 z0))).cell (b := w.heap.size) (by omega) (by omega) 1 (.int .i64 z1))).cell (b := w.heap.size) (by omega) (by omega) 2 (.int .i64 2))).cell (b := w.heap.size) (by omega) (by omega) 3 (.int .i64 ck))).cell (b := w.heap.size) (by omega) (by omega) 4 (.int .i64 cs))).cell (b := w.heap.size) (by omega) (by omega) 5 (.int .i64 cq))).cell (b := w.heap.size) (by omega) (by omega) 6 (.string ckey))).cell (b := w.heap.size) (by omega) (by omega) 7 (.string cold))).cell (b := w.heap.size) (by omega) (by omega) 8 (.string cval))).cell (b := w.heap.size) (by omega) (by omega) 9 (.string cunt))).cell (b := w.heap.size) (by omega) (by omega) 10 (.int .i64 clim))).cell (b := w.heap.size) (by omega) (by omega) 11 (.slice none 0 0))).cell (b := w.heap.size) (by omega) (by omega) 12 (.slice none 0 0))
    have hG9 := (grown_new (b := w.heap.size) (grown_new (b := w.heap.size) (grown_new (b := w.heap.size) (grown_new (b := w.heap.size) (grown_new (b := w.heap.size) (grown_new (b := w.heap.size) (grown_new (b := w.heap.size) (grown_new (b := w.heap.size) (grown_new (b := w.heap.size) (grown_new (b := w.heap.size) (grown_new (b := w.heap.size) (grown_new (b := w.heap.size) (grown_new (b := w.heap.size) hx.g (by omega) 0 (.int .i64 z0)) (by omega) 1 (.int .i64 z1)) (by omega) 2 (.int .i64 2)) (by omega) 3 (.int .i64 ck)) (by omega) 4 (.int .i64 cs)) (by omega) 5 (.int .i64 cq)) (by omega) 6 (.string ckey)) (by omega) 7 (.string cold)) (by omega) 8 (.string cval)) (by omega) 9 (.string cunt)) (by omega) 10 (.int .i64 clim)) (by omega) 11 (.slice none 0 0)) (by omega) 12 (.slice none 0 0))
    have hO9 := ((((((((((((((((((((((((((hO).cell (b := w.heap.size) (by omega) 0 (.int .i64 z0))).cell (b := w.heap.size) (by omega) 1 (.int .i64 z1))).cell (b := w.heap.size) (by omega) 2 (.int .i64 2))).cell (b := w.heap.size) (by omega) 3 (.int .i64 ck))).cell (b := w.heap.size) (by omega) 4 (.int .i64 cs))).cell (b := w.heap.size) (by omega) 5 (.int .i64 cq))).cell (b := w.heap.size) (by omega) 6 (.string ckey))).cell (b := w.heap.size) (by omega) 7 (.string cold))).cell (b := w.heap.size) (by omega) 8 (.string cval))).cell (b := w.heap.size) (by omega) 9 (.string cunt))).cell (b := w.heap.size) (by omega) 10 (.int .i64 clim))).cell (b := w.heap.size) (by omega) 11 (.slice none 0 0))).cell (b := w.heap.size) (by omega) 12 (.slice none 0 0))
    
    refine bodyPost_ret (ret_one rfl _ _ w.heap.size _ _ _ _ rfl hF Try.underlying28 rfl (by kernel_rfl)) rfl ⟨⟨z0, z1, 2, ⟨ck, cs, cq, ckey, cold, cval, cunt, clim⟩, noFV⟩, rfl, ?_, hO9.mono (by omega), HFit.out, ?_, hG9⟩
    · rw [HT.out]; rfl
    · rw [HT.out]; exact hR9
  have e2' : (z2 == 2) = false := by simpa using e2
  by_cases e3 : z2 = 3
  · have HT : Hid (R = (⟨z0, z1, 3, zeroC9, (conf10 9 S3).1⟩, (conf10 9 S3).2)) := by
      rw [Hid, HC.out, e3, ptail10_conf]
    have kc := confR_any w0 X4 rb S3 h4.r
    generalize conf10 9 S3 = A at *
    obtain ⟨ff, S4⟩ := A
    dsimp only at kc HT
    subst e3
    clear HC e2 e2'
    go_wp2_with fail
    refine kc.mono ?_
    rintro _ y5 ⟨X, rfl, hO5, hXf, hl5⟩
    have h5 := h4.left hl5
    have HXf : Hid (X.f = ff) := hXf
    have hbl4 := box_lt h4.box
    clear kc h4 hl5 c2 hlb hXf
    obtain ⟨⟨p, n, c⟩, ⟨q, m, d⟩, f⟩ := X
    unfold ConfV.arr
    dsimp only
    have c11 := box_cell h5.box 11
    have c12 := box_cell h5.box 12
    have fb := frozen9 h5.box
    have hlb := box_lt h5.box
    go_upto_region 9 with fail
    have hx : RdX w0 w _ rb S4 28 #[.int .i64 z0, .int .i64 z1, .int .i64 3, .int .i64 0, .int .i64 0, .int .i64 0, .string em9, .string em9, .string em9, .string em9, .int .i64 0, .slice p n c, .slice q m d] #[.int .i64 0, .int .i64 0, .int .i64 0, .int .i64 0, .int .i64 0, .int .i64 0, .string em9, .string em9, .string em9, .string em9, .int .i64 0, .slice none 0 0, .slice none 0 0] := (h5.put 11 (.slice p n c) (by show 11 < 13; omega)).put 12 (.slice q m d) (by show 12 < 13; omega)
    have hO := (hO5.cell (b := w.heap.size + 1) (by omega) 11 (.slice p n c)).cell (b := w.heap.size + 1) (by omega) 12 (.slice q m d)
    clear h5 hO5 c11 c12 fb hlb
    generalize (y5.setCell ⟨w.heap.size + 1, 11, none⟩ (.slice p n c)).setCell ⟨w.heap.size + 1, 12, none⟩ (.slice q m d) = X6 at *
    have c0 := box_cell hx.box 0
    have c1 := box_cell hx.box 1
    have c2 := box_cell hx.box 2
    have c3 := box_cell hx.box 3
    have c4 := box_cell hx.box 4
    have c5 := box_cell hx.box 5
    have c6 := box_cell hx.box 6
    have c7 := box_cell hx.box 7
    have c8 := box_cell hx.box 8
    have c9 := box_cell hx.box 9
    have c10 := box_cell hx.box 10
    have c11 := box_cell hx.box 11
    have c12 := box_cell hx.box 12
    have d0 := box_cell hx.res 0
    have d1 := box_cell hx.res 1
    have d2 := box_cell hx.res 2
    have d3 := box_cell hx.res 3
    have d4 := box_cell hx.res 4
    have d5 := box_cell hx.res 5
    have d6 := box_cell hx.res 6
    have d7 := box_cell hx.res 7
    have d8 := box_cell hx.res 8
    have d9 := box_cell hx.res 9
    have d10 := box_cell hx.res 10
    have d11 := box_cell hx.res 11
    have d12 := box_cell hx.res 12
    have fb := frozen9 hx.res
    have hlb := box_lt hx.box
    have hlr := box_lt hx.res
    go_wp2
    have hF := fillE (b := w.heap.size) (x0 := noEV) hx.res z0 z1 3 0 0 0 em9 em9 em9 em9 0 p n c q m d f
    have hR9 := ((((((((((((((((((((((((((hx.r).cell (b := w.heap.size) (by omega) (by omega) 0 (.int .i64 z0))).cell (b := w.heap.size) (by omega) (by omega) 1 (.int .i64 z1))).cell (b := w.heap.size) (by omega) (by omega) 2 (.int .i64 3))).cell (b := w.heap.size) (by omega) (by omega) 3 (.int .i64 0))).cell (b := w.heap.size) (by omega) (by omega) 4 (.int .i64 0))).cell (b := w.heap.size) (by omega) (by omega) 5 (.int .i64 0))).cell (b := w.heap.size) (by omega) (by omega) 6 (.string em9))).cell (b := w.heap.size) (by omega) (by omega) 7 (.string em9))).cell (b := w.heap.size) (by omega) (by omega) 8 (.string em9))).cell (b := w.heap.size) (by omega) (by omega) 9 (.string em9))).cell (b := w.heap.size) (by omega) (by omega) 10 (.int .i64 0))).cell (b := w.heap.size) (by omega) (by omega) 11 (.slice p n c))).cell (b := w.heap.size) (by omega) (by omega) 12 (.slice q m d))
    have hG9 := (grown_new (b := w.heap.size) (grown_new (b := w.heap.size) (grown_new (b := w.heap.size) (grown_new (b := w.heap.size) (grown_new (b := w.heap.size) (grown_new (b := w.heap.size) (grown_new (b := w.heap.size) (grown_new (b := w.heap.size) (grown_new (b := w.heap.size) (grown_new (b := w.heap.size) (grown_new (b := w.heap.size) (grown_new (b := w.heap.size) (grown_new (b := w.heap.size) hx.g (by omega) 0 (.int .i64 z0)) (by omega) 1 (.int .i64 z1)) (by omega) 2 (.int .i64 3)) (by omega) 3 (.int .i64 0)) (by omega) 4 (.int .i64 0)) (by omega) 5 (.int .i64 0)) (by omega) 6 (.string em9)) (by omega) 7 (.string em9)) (by omega) 8 (.string em9)) (by omega) 9 (.string em9)) (by omega) 10 (.int .i64 0)) (by omega) 11 (.slice p n c)) (by omega) 12 (.slice q m d))
    have hO9 := ((((((((((((((((((((((((((hO).cell (b := w.heap.size) (by omega) 0 (.int .i64 z0))).cell (b := w.heap.size) (by omega) 1 (.int .i64 z1))).cell (b := w.heap.size) (by omega) 2 (.int .i64 3))).cell (b := w.heap.size) (by omega) 3 (.int .i64 0))).cell (b := w.heap.size) (by omega) 4 (.int .i64 0))).cell (b := w.heap.size) (by omega) 5 (.int .i64 0))).cell (b := w.heap.size) (by omega) 6 (.string em9))).cell (b := w.heap.size) (by omega) 7 (.string em9))).cell (b := w.heap.size) (by omega) 8 (.string em9))).cell (b := w.heap.size) (by omega) 9 (.string em9))).cell (b := w.heap.size) (by omega) 10 (.int .i64 0))).cell (b := w.heap.size) (by omega) 11 (.slice p n c))).cell (b := w.heap.size) (by omega) 12 (.slice q m d))
    
    refine bodyPost_ret (ret_one rfl _ _ w.heap.size _ _ _ _ rfl hF Try.underlying28 rfl (by kernel_rfl)) rfl ⟨⟨z0, z1, 3, ⟨0, 0, 0, em9, em9, em9, em9, 0⟩, ⟨⟨p, n, c⟩, ⟨q, m, d⟩, f⟩⟩, rfl, ?_, hO9.mono (by omega), fits_zeroC, ?_, hG9⟩
    · rw [HT.out, ← HXf.out]; rfl
    · rw [HT.out]; exact hR9
  have e3' : (z2 == 3) = false := by simpa using e3
  have HT : Hid (R = (⟨z0, z1, z2, zeroC9, noF10⟩, S3)) := by
    rw [Hid, HC.out, ptail10_else _ _ _ _ e2 e3]
  clear HC e2 e3 c2 hlb
  have hx := h4
  have c2 := box_cell hx.box 2
  have hlb := box_lt hx.box
  go_upto_region 9 with fail
  have hO := OwnsF.nil X4 (w.heap.size + 1)
  clear c2 hlb h4
  have c0 := box_cell hx.box 0
  have c1 := box_cell hx.box 1
  have c2 := box_cell hx.box 2
  have c3 := box_cell hx.box 3
  have c4 := box_cell hx.box 4
  have c5 := box_cell hx.box 5
  have c6 := box_cell hx.box 6
  have c7 := box_cell hx.box 7
  have c8 := box_cell hx.box 8
  have c9 := box_cell hx.box 9
  have c10 := box_cell hx.box 10
  have c11 := box_cell hx.box 11
  have c12 := box_cell hx.box 12
  have d0 := box_cell hx.res 0
  have d1 := box_cell hx.res 1
  have d2 := box_cell hx.res 2
  have d3 := box_cell hx.res 3
  have d4 := box_cell hx.res 4
  have d5 := box_cell hx.res 5
  have d6 := box_cell hx.res 6
  have d7 := box_cell hx.res 7
  have d8 := box_cell hx.res 8
  have d9 := box_cell hx.res 9
  have d10 := box_cell hx.res 10
  have d11 := box_cell hx.res 11
  have d12 := box_cell hx.res 12
  have fb := frozen9 hx.res
  have hlb := box_lt hx.box
  have hlr := box_lt hx.res
  go_wp2
  have hF := fillE (b := w.heap.size) (x0 := noEV) hx.res z0 z1 z2 0 0 0 em9 em9 em9 em9 0 none 0 0 none 0 0 noF10
  have hR9 := ((((((((((((((((((((((((((hx.r).cell (b := w.heap.size) (by omega) (by omega) 0 (.int .i64 z0))).cell (b := w.heap.size) (by omega) (by omega) 1 (.int .i64 z1))).cell (b := w.heap.size) (by omega) (by omega) 2 (.int .i64 z2))).cell (b := w.heap.size) (by omega) (by omega) 3 (.int .i64 0))).cell (b := w.heap.size) (by omega) (by omega) 4 (.int .i64 0))).cell (b := w.heap.size) (by omega) (by omega) 5 (.int .i64 0))).cell (b := w.heap.size) (by omega) (by omega) 6 (.string em9))).cell (b := w.heap.size) (by omega) (by omega) 7 (.string em9))).cell (b := w.heap.size) (by omega) (by omega) 8 (.string em9))).cell (b := w.heap.size) (by omega) (by omega) 9 (.string em9))).cell (b := w.heap.size) (by omega) (by omega) 10 (.int .i64 0))).cell (b := w.heap.size) (by omega) (by omega) 11 (.slice none 0 0))).cell (b := w.heap.size) (by omega) (by omega) 12 (.slice none 0 0))
  have hG9 := (grown_new (b := w.heap.size) (grown_new (b := w.heap.size) (grown_new (b := w.heap.size) (grown_new (b := w.heap.size) (grown_new (b := w.heap.size) (grown_new (b := w.heap.size) (grown_new (b := w.heap.size) (grown_new (b := w.heap.size) (grown_new (b := w.heap.size) (grown_new (b := w.heap.size) (grown_new (b := w.heap.size) (grown_new (b := w.heap.size) (grown_new (b := w.heap.size) hx.g (by omega) 0 (.int .i64 z0)) (by omega) 1 (.int .i64 z1)) (by omega) 2 (.int .i64 z2)) (by omega) 3 (.int .i64 0)) (by omega) 4 (.int .i64 0)) (by omega) 5 (.int .i64 0)) (by omega) 6 (.string em9)) (by omega) 7 (.string em9)) (by omega) 8 (.string em9)) (by omega) 9 (.string em9)) (by omega) 10 (.int .i64 0)) (by omega) 11 (.slice none 0 0)) (by omega) 12 (.slice none 0 0))
  have hO9 := ((((((((((((((((((((((((((hO).cell (b := w.heap.size) (by omega) 0 (.int .i64 z0))).cell (b := w.heap.size) (by omega) 1 (.int .i64 z1))).cell (b := w.heap.size) (by omega) 2 (.int .i64 z2))).cell (b := w.heap.size) (by omega) 3 (.int .i64 0))).cell (b := w.heap.size) (by omega) 4 (.int .i64 0))).cell (b := w.heap.size) (by omega) 5 (.int .i64 0))).cell (b := w.heap.size) (by omega) 6 (.string em9))).cell (b := w.heap.size) (by omega) 7 (.string em9))).cell (b := w.heap.size) (by omega) 8 (.string em9))).cell (b := w.heap.size) (by omega) 9 (.string em9))).cell (b := w.heap.size) (by omega) 10 (.int .i64 0))).cell (b := w.heap.size) (by omega) 11 (.slice none 0 0))).cell (b := w.heap.size) (by omega) 12 (.slice none 0 0))
  
  refine bodyPost_ret (ret_one rfl _ _ w.heap.size _ _ _ _ rfl hF Try.underlying28 rfl (by kernel_rfl)) rfl ⟨⟨z0, z1, z2, ⟨0, 0, 0, em9, em9, em9, em9, 0⟩, noFV⟩, rfl, ?_, hO9.mono (by omega), fits_zeroC, ?_, hG9⟩
  · rw [HT.out]; rfl
  · rw [HT.out]; exact hR9
end Go.Proofs.Ytnbaoimjcaeeaaa

/-
  Contracts: what reads of entry tell: snap, goodHard; a reader made of bytes.
-/
namespace Go.Proofs.Ytnbaoimjcaeeaaa
open Go.RowKit Go.Shelf

/-- 'append(s, x...)', x a string, as a step of a region that draws its order. -/
theorem step_text {P : Program} {ops : Array Oper} {o : Oper} {a : Act} {K : Act → World → Prop} {Q : Exit → Act → World → Prop} {E : Prop} (w : World) (hgd : o.guard = none) (s x : Operand) (t u : TypeId)
    (ho : o.op = .call { callee := .builtin .append, args := #[s, x], argTypes := #[t, u] })
    (B : Nat) (e : TypeId) (i : TypeInfo) (ht : P.underlying t = some (.slice e)) (hu : P.underlying u = some .string) (hi : P.info? e = some i) (hz : i.zero = some (.int .u8 0)) (hsize : i.size = 1) (hby : i.bytes = 1)
    (v : Value) (xs : List Int) (str : ByteArray) (hs : a.eval s = v) (hx : a.eval x = .string str) (hown : Owns w B e v xs) (hlen : xs.length ≤ 1099511627776) (hlen2 : str.size ≤ 1099511627776) (hB : B ≤ w.heap.size)
    (h : ∀ v' w', Owns w' B e v' (xs ++ strB str) → w.grownBy w' v.ownBlock → K (a.put o.dst v') w') :
    if Region.wanted o (yielded ops a.tmps) = true then Oper.wp P o a w K Q else E := by
  have hw : Region.wanted o (yielded ops a.tmps) = true := by simp [Region.wanted, hgd]
  rw [if_pos hw]
  obtain ⟨v', w', hr, h2, h3, -⟩ := Lib.run_append_own_string (P := P) w B t u o.type e i ht hu hi hz hsize hby v xs.length (cellsB xs) hown str (by unfold maxLen; omega) (by omega) hB
  unfold Oper.wp execOp
  simp only [ho, resolve, invoke, builtin, Sem.run_bind, Sem.run_pure, Result.andThen_ok, List.map_toArray, List.map_cons, List.map_nil, hs, hx, hr]
  refine h v' w' ?_ h3
  unfold Owns
  have e1 : (xs ++ strB str).length = xs.length + str.size := by rw [List.length_append, strB_length]
  have e2 : cellsB (xs ++ strB str) = cellsB xs ++ Lib.strCells str := by simp [cellsB, Lib.strCells, strB]
  rw [e1, e2]
  exact h2

theorem SnapAt.put {w : World} {b : Nat} {x x' : SnapV} (h : SnapAt w b x) (i : Nat) (v : Value) (hi : i < 5) (hc : x'.arr = x.arr.set i v (by show i < 5; exact hi)) : SnapAt (w.setCell ⟨b, i, none⟩ v) b x' := by
  unfold SnapAt
  rw [hc]
  exact set_block9 h i v _
theorem fillS {w : World} {b : Nat} {x0 : SnapV} (h : SnapAt w b x0) (si : Int) (st : Int) (p : Option Addr) (n : Nat) (c : Nat) (q : Option Addr) (m : Nat) (d : Nat) (a : Option Addr) (b0 : Nat) (e0 : Nat) (f : Conf10) (dd : List Int) : SnapAt (((((w.setCell ⟨b, 0, none⟩ (.int .i64 si)).setCell ⟨b, 1, none⟩ (.int .i64 st)).setCell ⟨b, 2, none⟩ (.slice p n c)).setCell ⟨b, 3, none⟩ (.slice q m d)).setCell ⟨b, 4, none⟩ (.slice a b0 e0)) b ⟨si, st, ⟨⟨p, n, c⟩, ⟨q, m, d⟩, f⟩, ⟨a, b0, e0⟩, dd⟩ := by
  obtain ⟨si0_, st0_, ⟨⟨p0_, n0_, c0_⟩, ⟨q0_, m0_, d0_⟩, f0_⟩, ⟨a0_, b00_, e00_⟩, dd0_⟩ := x0
  exact (((((h.put (x' := ⟨si, st0_, ⟨⟨p0_, n0_, c0_⟩, ⟨q0_, m0_, d0_⟩, f⟩, ⟨a0_, b00_, e00_⟩, dd⟩) 0 _ (by decide) rfl).put (x' := ⟨si, st, ⟨⟨p0_, n0_, c0_⟩, ⟨q0_, m0_, d0_⟩, f⟩, ⟨a0_, b00_, e00_⟩, dd⟩) 1 _ (by decide) rfl).put (x' := ⟨si, st, ⟨⟨p, n, c⟩, ⟨q0_, m0_, d0_⟩, f⟩, ⟨a0_, b00_, e00_⟩, dd⟩) 2 _ (by decide) rfl).put (x' := ⟨si, st, ⟨⟨p, n, c⟩, ⟨q, m, d⟩, f⟩, ⟨a0_, b00_, e00_⟩, dd⟩) 3 _ (by decide) rfl).put (x' := ⟨si, st, ⟨⟨p, n, c⟩, ⟨q, m, d⟩, f⟩, ⟨a, b0, e0⟩, dd⟩) 4 _ (by decide) rfl)

/-- A snapshot that the call made. -/
structure OwnsS (w : World) (B : Nat) (x : SnapV) : Prop where
  i : inI x.i
  t : inI x.t
  f : OwnsF w B x.f
  w : Owns w B 5 (.slice x.w.p x.w.n x.w.c) x.d
  b : IsB x.d
  l : x.d.length ≤ 1073741824
theorem OwnsS.fits {w : World} {B : Nat} {x : SnapV} (h : OwnsS w B x) : FitsS w x := ⟨h.i, h.t, h.f.fits, h.w.has, h.b, Nat.le_trans h.l (by decide)⟩
theorem OwnsS.mono {w : World} {B B' : Nat} {x : SnapV} (h : OwnsS w B x) (hB : B' ≤ B) : OwnsS w B' x := ⟨h.i, h.t, h.f.mono hB, h.w.mono hB, h.b, h.l⟩
theorem Owns.kept10 {w w' : World} {B r : Nat} {e : TypeId} {v : Value} {xs : List Int} (h : Owns w B e v xs) (hg : w.grownBy w' (some r)) (hr : r < B) : Owns w' B e v xs := by
  refine World.ownsRow.kept h hg ?_
  cases hv : v.ownBlock with
  | none => exact .inl rfl
  | some k =>
    have := (World.ownsRow.lt h k hv).1
    exact .inr (fun e => by cases e; omega)
theorem OwnsS.kept {w w' : World} {B r : Nat} {x : SnapV} (h : OwnsS w B x) (hg : w.grownBy w' (some r)) (hr : r < B) : OwnsS w' B x := ⟨h.i, h.t, h.f.kept hg hr, h.w.kept10 hg hr, h.b, h.l⟩
theorem OwnsS.cell {w : World} {B b : Nat} {x : SnapV} (h : OwnsS w B x) (hb : b < B) (i : Nat) (v : Value) : OwnsS (w.setCell ⟨b, i, none⟩ v) B x := h.kept (grown_set w b i v) hb
theorem OwnsS.below {w w' : World} {B : Nat} {x : SnapV} (h : OwnsS w B x) (hb : Below w.heap.size w w') : OwnsS w' B x := ⟨h.i, h.t, h.f.below hb, h.w.below hb (Nat.le_refl _), h.b, h.l⟩
theorem OwnsS.nil (w : World) (B : Nat) : OwnsS w B noSV := ⟨⟨by decide, by decide⟩, ⟨by decide, by decide⟩, OwnsF.nil w B, Owns.nil w B _, IsB.nil, Nat.zero_le _⟩
theorem snap10_is (S : St) : snap10 9 S = (⟨(int9 S).1, (int9 (int9 S).2).1, (conf10 9 (int9 (int9 S).2).2).1, (byt10 (conf10 9 (int9 (int9 S).2).2).2).1⟩, (byt10 (conf10 9 (int9 (int9 S).2).2).2).2) := by
  unfold snap10
  rfl


set_option maxRecDepth 100000 in
set_option maxHeartbeats 4000000 in
theorem snapR_any (w0 w : World) (rb : Nat) (S0 : St) (h : Rdr w0 w rb S0) :
    Calls Try.prog 55 #[.pointer (some ⟨rb, 0, none⟩)] w fun e w' => ∃ X : SnapV, e = .returned (.agg X.arr) ∧ X.s = (snap10 9 S0).1 ∧ OwnsS w' w.heap.size X ∧ Left10 w0 w rb (snap10 9 S0).2 w' := by
  have hmf : ∀ (fn : Fn) (first cap : Array Value) (w : World), (Instr.makeFunc fn first cap).run Try.prog w = .ok (.func fn first cap) w := fun _ _ _ _ => rfl
  obtain ⟨i0, hi, hz0, hz1, hz2⟩ := info_parts info8c
  have h0 : RdX w0 w _ rb S0 39 #[.int .i64 0, .int .i64 0, .slice none 0 0, .slice none 0 0, .slice none 0 0] #[.int .i64 0, .int .i64 0, .slice none 0 0, .slice none 0 0, .slice none 0 0] := RdX.new h 39 #[.int .i64 0, .int .i64 0, .slice none 0 0, .slice none 0 0, .slice none 0 0]
  have HC : Hid (snap10 9 S0 = (⟨(int9 S0).1, (int9 (int9 S0).2).1, (conf10 9 (int9 (int9 S0).2).2).1, (byt10 (conf10 9 (int9 (int9 S0).2).2).2).1⟩, (byt10 (conf10 9 (int9 (int9 S0).2).2).2).2)) := snap10_is S0
  have HI0 : Hid (inI (int9 S0).1) := int9_in _
  have HI1 : Hid (inI (int9 (int9 S0).2).1) := int9_in _
  generalize snap10 9 S0 = R at *
  have hrl := h.lt
  clear h
  go_enter Try.func55, Try.ntmps55
  have ki0 := h0.r.int
  go_wp2_with fail
  refine ki0.mono ?_
  rintro _ y0 ⟨rfl, hl0⟩
  have h1 := h0.left hl0
  clear h0 ki0 hl0
  generalize int9 S0 = A at *
  obtain ⟨z0, S1⟩ := A
  dsimp only at h1 HC HI0 HI1
  have ki1 := h1.r.int
  go_wp2_with fail
  refine ki1.mono ?_
  rintro _ y1 ⟨rfl, hl1⟩
  have h2 := h1.left hl1
  clear h1 ki1 hl1
  generalize int9 S1 = A at *
  obtain ⟨z1, S2⟩ := A
  dsimp only at h2 HC HI1

  have c0 := box_cell h2.box 0
  have c1 := box_cell h2.box 1
  have fb := frozen9 h2.box
  have hlb := box_lt h2.box
  go_upto_region 4 with fail
  have h3 : RdX w0 w _ rb S2 39 #[.int .i64 z0, .int .i64 z1, .slice none 0 0, .slice none 0 0, .slice none 0 0] #[.int .i64 0, .int .i64 0, .slice none 0 0, .slice none 0 0, .slice none 0 0] := (h2.put 0 (.int .i64 z0) (by show 0 < 5; omega)).put 1 (.int .i64 z1) (by show 1 < 5; omega)
  clear h2 c0 c1 fb hlb
  generalize (y1.setCell ⟨w.heap.size + 1, 0, none⟩ (.int .i64 z0)).setCell ⟨w.heap.size + 1, 1, none⟩ (.int .i64 z1) = X3 at *
  have kc := confR_any w0 X3 rb S2 h3.r
  have hb3 := box_lt h3.box
  generalize conf10 9 S2 = A at *
  obtain ⟨ff, S3⟩ := A
  dsimp only at kc HC
  go_wp2_with fail
  refine kc.mono ?_
  rintro _ y4 ⟨X, rfl, hO4, hXf, hl4⟩
  have h4 := h3.left hl4
  have HXf : Hid (X.f = ff) := hXf
  clear kc h3 hl4 hXf
  obtain ⟨⟨p, n, c⟩, ⟨q, m, d⟩, f⟩ := X
  unfold ConfV.arr
  dsimp only
  have c2 := box_cell h4.box 2
  have c3 := box_cell h4.box 3
  have fb := frozen9 h4.box
  have hlb := box_lt h4.box
  go_upto_region 5 with fail
  have h5 : RdX w0 w _ rb S3 39 #[.int .i64 z0, .int .i64 z1, .slice p n c, .slice q m d, .slice none 0 0] #[.int .i64 0, .int .i64 0, .slice none 0 0, .slice none 0 0, .slice none 0 0] := (h4.put 2 (.slice p n c) (by show 2 < 5; omega)).put 3 (.slice q m d) (by show 3 < 5; omega)
  have hO5 := (hO4.cell (b := w.heap.size + 1) (by omega) 2 (.slice p n c)).cell (b := w.heap.size + 1) (by omega) 3 (.slice q m d)
  clear h4 hO4 c2 c3 fb hlb
  generalize (y4.setCell ⟨w.heap.size + 1, 2, none⟩ (.slice p n c)).setCell ⟨w.heap.size + 1, 3, none⟩ (.slice q m d) = X5 at *
  have hD : Below X5.heap.size X5 X5.drew := ⟨rfl, rfl, rfl, Nat.le_refl _, fun _ _ => rfl⟩
  have h6 := h5.more hD
  have hO6 := hO5.below hD
  have kt := h6.r.text
  have HB : Hid (IsB (byt10 S3).1) := byt10_isB h6.r.isb
  have hlen : (byt10 S3).1.length ≤ 1073741824 := Nat.le_trans (byt10_len S3) h6.r.len
  have HT : Hid (strB (strOfNums (byt10 S3).1) = (byt10 S3).1) := strB_of HB.out
  have hsz : (strOfNums (byt10 S3).1).size ≤ 1073741824 := by rw [size_of HB.out]; exact hlen
  have HLen : Hid ((byt10 S3).1.length ≤ 1073741824) := hlen
  generalize byt10 S3 = A at *
  obtain ⟨xs, S4⟩ := A
  dsimp only at kt HC HB HT hsz HLen
  generalize strOfNums xs = sx at *
  have c4 : X5.drew.cell? ⟨w.heap.size + 1, 4, none⟩ = some (.slice none 0 0) := box_cell h6.box 4
  have hlb := box_lt h6.box
  have hx6 : Hid (RdX w0 w X5.drew rb S3 39 #[.int .i64 z0, .int .i64 z1, .slice p n c, .slice q m d, .slice none 0 0] #[.int .i64 0, .int .i64 0, .slice none 0 0, .slice none 0 0, .slice none 0 0]) := h6
  have HO6 : Hid (OwnsF X5.drew X3.heap.size ⟨⟨p, n, c⟩, ⟨q, m, d⟩, f⟩) := hO6
  clear h5 h6 hO5 hO6 hD hlen
  go_region_law (first
    | (go_simp; go_at_call 83; refine Calls.mono kt ?_; rintro _ y7 ⟨rfl, hl7⟩; dsimp only; have h7 := hx6.out.left hl7; have hO7 := HO6.out.kept hl7.2 (by omega); have d4 : y7.cell? ⟨w.heap.size + 1, 4, none⟩ = some (.slice none 0 0) := box_cell h7.box 4; have hld := box_lt h7.box)
    | (refine step_text _ rfl _ _ 34 9 rfl y7.heap.size 5 i0 Try.underlying34 Try.underlying9 hi hz0 hz1 hz2 _ [] sx rfl rfl (Owns.nil _ _ _) (by simp) (by omega) (Nat.le_refl _) ?_; intro v8 y8 ho8 hg8; have hb8 := (below_grown (Owns.nil y7 y7.heap.size 5) (Nat.le_refl _) hg8); rw [List.nil_append, HT.out] at ho8; have h8 := h7.more hb8; have hO8 := hO7.below hb8; have c4' := box_cell h8.box 4; have fb := frozen9 h8.box; have hlb8 := box_lt h8.box; obtain ⟨a, e0, rfl, -, -, -⟩ := id ho8.has; generalize hb0 : xs.length = b0 at ho8 ⊢; clear hb0))
  all_goals
    have hx : RdX w0 w _ rb S4 39 #[.int .i64 z0, .int .i64 z1, .slice p n c, .slice q m d, .slice a b0 e0] #[.int .i64 0, .int .i64 0, .slice none 0 0, .slice none 0 0, .slice none 0 0] := h8.put 4 (.slice a b0 e0) (by show 4 < 5; omega)
    have hS9 : OwnsS _ (w.heap.size + 1 + 1) ⟨z0, z1, ⟨⟨p, n, c⟩, ⟨q, m, d⟩, f⟩, ⟨a, b0, e0⟩, xs⟩ := ⟨HI0.out, HI1.out, (hO8.cell (b := w.heap.size + 1) (by omega) 4 (.slice a b0 e0)).mono (by omega), (ho8.kept10 (grown_set y8 (w.heap.size + 1) 4 (.slice a b0 e0)) (by omega)).mono (by omega), HB.out, HLen.out⟩
    clear h8 hO8 ho8 c4' fb hlb8 h7 hO7 d4 hld hl7 hg8 hb8
    generalize y8.setCell ⟨w.heap.size + 1, 4, none⟩ (.slice a b0 e0) = X9 at *
    have c0 := box_cell hx.box 0
    have c1 := box_cell hx.box 1
    have c2 := box_cell hx.box 2
    have c3 := box_cell hx.box 3
    have c4 := box_cell hx.box 4
    have d0 := box_cell hx.res 0
    have d1 := box_cell hx.res 1
    have d2 := box_cell hx.res 2
    have d3 := box_cell hx.res 3
    have d4 := box_cell hx.res 4
    have fb := frozen9 hx.res
    have hlb := box_lt hx.box
    have hlr := box_lt hx.res
    go_wp2
    have hF := fillS (b := w.heap.size) (x0 := noSV) hx.res z0 z1 p n c q m d a b0 e0 f xs
    have hR9 := ((((((((((hx.r).cell (b := w.heap.size) (by omega) (by omega) 0 (.int .i64 z0))).cell (b := w.heap.size) (by omega) (by omega) 1 (.int .i64 z1))).cell (b := w.heap.size) (by omega) (by omega) 2 (.slice p n c))).cell (b := w.heap.size) (by omega) (by omega) 3 (.slice q m d))).cell (b := w.heap.size) (by omega) (by omega) 4 (.slice a b0 e0))
    have hG9 := (grown_new (b := w.heap.size) (grown_new (b := w.heap.size) (grown_new (b := w.heap.size) (grown_new (b := w.heap.size) (grown_new (b := w.heap.size) hx.g (by omega) 0 (.int .i64 z0)) (by omega) 1 (.int .i64 z1)) (by omega) 2 (.slice p n c)) (by omega) 3 (.slice q m d)) (by omega) 4 (.slice a b0 e0))
    have hO9 := ((((((((((hS9).cell (b := w.heap.size) (by omega) 0 (.int .i64 z0))).cell (b := w.heap.size) (by omega) 1 (.int .i64 z1))).cell (b := w.heap.size) (by omega) 2 (.slice p n c))).cell (b := w.heap.size) (by omega) 3 (.slice q m d))).cell (b := w.heap.size) (by omega) 4 (.slice a b0 e0))
    refine bodyPost_ret (ret_one rfl _ _ w.heap.size _ _ _ _ rfl hF Try.underlying39 rfl (by kernel_rfl)) rfl ⟨⟨z0, z1, ⟨⟨p, n, c⟩, ⟨q, m, d⟩, f⟩, ⟨a, b0, e0⟩, xs⟩, rfl, ?_, hO9.mono (by omega), ?_, hG9⟩
    · rw [HC.out, ← HXf.out]; rfl
    · rw [HC.out]; exact hR9

theorem min_of (x y : Int) : (if y < x then y else x) = min x y := by
  rw [Int.min_def]
  split <;> split <;> omega
theorem min3_run (ts : Array TypeId) (t : TypeId) (x y z : Int) (W : World) : (Builtin.min_ ts t #[.int .i64 x, .int .i64 y, .int .i64 z]).run Try.prog W = .ok (.int .i64 (min (min x y) z)) W := by
  simp [Builtin.min_, Builtin.min2, min_of]
theorem min5_run (ts : Array TypeId) (t : TypeId) (x y z u v : Int) (W : World) : (Builtin.min_ ts t #[.int .i64 x, .int .i64 y, .int .i64 z, .int .i64 u, .int .i64 v]).run Try.prog W = .ok (.int .i64 (min (min (min (min x y) z) u) v)) W := by
  simp [Builtin.min_, Builtin.min2, min_of]

set_option maxRecDepth 100000 in
set_option maxHeartbeats 2000000 in
theorem goodHard_any (x : Hard10) (w : World) : Calls Try.prog 53 #[.agg x.arr] w fun e w' => e = .returned (.bool (goodH10 x)) ∧ Below w.heap.size w w' := by
  have hb1 : Below w.heap.size w (w.alloc (.cells x.arr 41)) := (Below.refl _ _).alloc (Nat.le_refl _) _
  have HG : Hid (goodH10 x = decide (0 ≤ min (min x.t x.v) x.c)) := by
    rw [Hid, Bool.eq_iff_iff]
    unfold goodH10
    simp only [Bool.and_eq_true, decide_eq_true_eq]
    omega
  generalize goodH10 x = r at *
  obtain ⟨ht, hv, hc⟩ := x
  have hm3 := fun ts t W => min3_run ts t ht hv hc W
  unfold Hard10.arr at *
  dsimp only at *
  go_enter Try.func53, Try.ntmps53
  generalize min (min ht hv) hc = mm at *
  go_wp2
  go_ret
  rw [HG.out]
  exact ⟨rfl, hb1⟩

theorem readerOf_any (v : Value) (w : World) (h : ∃ p n c, v = .slice p n c) : Calls Try.prog 48 #[v] w fun e w' => e = .returned (.pointer (some ⟨w.heap.size, 0, none⟩)) ∧ w' = w.alloc (.cells #[v, .bool false] 102) := by
  obtain ⟨p, n, c, rfl⟩ := h
  go_enter Try.func48, Try.ntmps48
  go_wp2
  go_ret
  exact ⟨rfl, rfl⟩
theorem Rdr.make {w0 w : World} {v : Value} {xs : List Int} (hb : Below w0.heap.size w0 w) (hv : Has w0 v xs) (hB : IsB xs) (hl : xs.length ≤ 1073741824) (T : TypeId) : Rdr w0 (w.alloc (.cells #[v, .bool false] T)) w.heap.size (xs, false) := by
  have hbox := heap_alloc_new w (.cells #[v, .bool false] T)
  have hb2 : Below w.heap.size w (w.alloc (.cells #[v, .bool false] T)) := (Below.refl _ _).alloc (Nat.le_refl _) _
  refine ⟨⟨v, ⟨by simp, hb.size, box_cell hbox 0, box_cell hbox 1, frozen9 hbox 0, frozen9 hbox 1, (hv.inn.below hb (Nat.le_refl _)).below hb2 hb.size⟩⟩, hb.trans (hb2.mono hb.size), (fun h => by cases h), hB, hl⟩
end Go.Proofs.Ytnbaoimjcaeeaaa
