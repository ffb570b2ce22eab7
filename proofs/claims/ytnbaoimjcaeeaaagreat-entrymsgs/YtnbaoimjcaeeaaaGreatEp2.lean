/-
  Contracts: what reads of entry tell: msg.
-/
import Derived.Test.YtnbaoimjcaeeaaaGreatEp1
namespace Go.Proofs.YtnbaoimjcaeeaaaGreat
open Go.RowKit Go.Shelf

def noMV : MsgV := ⟨0, 0, 0, 0, 0, 0, 0, 0, false, 0, nilS10, [], noSV⟩
theorem noMV_m : noMV.m = noM10 := rfl
theorem MsgAt.put {w : World} {b : Nat} {x x' : MsgV} (h : MsgAt w b x) (i : Nat) (v : Value) (hi : i < 16) (hc : x'.arr = x.arr.set i v (by show i < 16; exact hi)) : MsgAt (w.setCell ⟨b, i, none⟩ v) b x' := by
  unfold MsgAt
  rw [hc]
  exact set_block9 h i v _
theorem fillM {w : World} {b : Nat} {x0 : MsgV} (h : MsgAt w b x0) (k : Int) (fr : Int) (too : Int) (t : Int) (i : Int) (lt : Int) (cm : Int) (ro : Int) (rej : Bool) (hint : Int) (a1 : Option Addr) (b1 : Nat) (e1 : Nat) (si : Int) (st : Int) (p : Option Addr) (n : Nat) (c : Nat) (q : Option Addr) (m : Nat) (d : Nat) (a : Option Addr) (b0 : Nat) (e0 : Nat) (f : Conf10) (dd : List Int) (es : List EntV) : MsgAt ((((((((((((((((w.setCell ⟨b, 0, none⟩ (.int .i64 k)).setCell ⟨b, 1, none⟩ (.int .i64 fr)).setCell ⟨b, 2, none⟩ (.int .i64 too)).setCell ⟨b, 3, none⟩ (.int .i64 t)).setCell ⟨b, 4, none⟩ (.int .i64 i)).setCell ⟨b, 5, none⟩ (.int .i64 lt)).setCell ⟨b, 6, none⟩ (.int .i64 cm)).setCell ⟨b, 7, none⟩ (.int .i64 ro)).setCell ⟨b, 8, none⟩ (.bool rej)).setCell ⟨b, 9, none⟩ (.int .i64 hint)).setCell ⟨b, 10, none⟩ (.slice a1 b1 e1)).setCell ⟨b, 11, none⟩ (.int .i64 si)).setCell ⟨b, 12, none⟩ (.int .i64 st)).setCell ⟨b, 13, none⟩ (.slice p n c)).setCell ⟨b, 14, none⟩ (.slice q m d)).setCell ⟨b, 15, none⟩ (.slice a b0 e0)) b ⟨k, fr, too, t, i, lt, cm, ro, rej, hint, ⟨a1, b1, e1⟩, es, ⟨si, st, ⟨⟨p, n, c⟩, ⟨q, m, d⟩, f⟩, ⟨a, b0, e0⟩, dd⟩⟩ := by
  obtain ⟨k0_, fr0_, too0_, t0_, i0_, lt0_, cm0_, ro0_, rej0_, hint0_, ⟨a10_, b10_, e10_⟩, es0_, ⟨si0_, st0_, ⟨⟨p0_, n0_, c0_⟩, ⟨q0_, m0_, d0_⟩, f0_⟩, ⟨a0_, b00_, e00_⟩, dd0_⟩⟩ := x0
  exact ((((((((((((((((h.put (x' := ⟨k, fr0_, too0_, t0_, i0_, lt0_, cm0_, ro0_, rej0_, hint0_, ⟨a10_, b10_, e10_⟩, es, ⟨si0_, st0_, ⟨⟨p0_, n0_, c0_⟩, ⟨q0_, m0_, d0_⟩, f⟩, ⟨a0_, b00_, e00_⟩, dd⟩⟩) 0 _ (by decide) rfl).put (x' := ⟨k, fr, too0_, t0_, i0_, lt0_, cm0_, ro0_, rej0_, hint0_, ⟨a10_, b10_, e10_⟩, es, ⟨si0_, st0_, ⟨⟨p0_, n0_, c0_⟩, ⟨q0_, m0_, d0_⟩, f⟩, ⟨a0_, b00_, e00_⟩, dd⟩⟩) 1 _ (by decide) rfl).put (x' := ⟨k, fr, too, t0_, i0_, lt0_, cm0_, ro0_, rej0_, hint0_, ⟨a10_, b10_, e10_⟩, es, ⟨si0_, st0_, ⟨⟨p0_, n0_, c0_⟩, ⟨q0_, m0_, d0_⟩, f⟩, ⟨a0_, b00_, e00_⟩, dd⟩⟩) 2 _ (by decide) rfl).put (x' := ⟨k, fr, too, t, i0_, lt0_, cm0_, ro0_, rej0_, hint0_, ⟨a10_, b10_, e10_⟩, es, ⟨si0_, st0_, ⟨⟨p0_, n0_, c0_⟩, ⟨q0_, m0_, d0_⟩, f⟩, ⟨a0_, b00_, e00_⟩, dd⟩⟩) 3 _ (by decide) rfl).put (x' := ⟨k, fr, too, t, i, lt0_, cm0_, ro0_, rej0_, hint0_, ⟨a10_, b10_, e10_⟩, es, ⟨si0_, st0_, ⟨⟨p0_, n0_, c0_⟩, ⟨q0_, m0_, d0_⟩, f⟩, ⟨a0_, b00_, e00_⟩, dd⟩⟩) 4 _ (by decide) rfl).put (x' := ⟨k, fr, too, t, i, lt, cm0_, ro0_, rej0_, hint0_, ⟨a10_, b10_, e10_⟩, es, ⟨si0_, st0_, ⟨⟨p0_, n0_, c0_⟩, ⟨q0_, m0_, d0_⟩, f⟩, ⟨a0_, b00_, e00_⟩, dd⟩⟩) 5 _ (by decide) rfl).put (x' := ⟨k, fr, too, t, i, lt, cm, ro0_, rej0_, hint0_, ⟨a10_, b10_, e10_⟩, es, ⟨si0_, st0_, ⟨⟨p0_, n0_, c0_⟩, ⟨q0_, m0_, d0_⟩, f⟩, ⟨a0_, b00_, e00_⟩, dd⟩⟩) 6 _ (by decide) rfl).put (x' := ⟨k, fr, too, t, i, lt, cm, ro, rej0_, hint0_, ⟨a10_, b10_, e10_⟩, es, ⟨si0_, st0_, ⟨⟨p0_, n0_, c0_⟩, ⟨q0_, m0_, d0_⟩, f⟩, ⟨a0_, b00_, e00_⟩, dd⟩⟩) 7 _ (by decide) rfl).put (x' := ⟨k, fr, too, t, i, lt, cm, ro, rej, hint0_, ⟨a10_, b10_, e10_⟩, es, ⟨si0_, st0_, ⟨⟨p0_, n0_, c0_⟩, ⟨q0_, m0_, d0_⟩, f⟩, ⟨a0_, b00_, e00_⟩, dd⟩⟩) 8 _ (by decide) rfl).put (x' := ⟨k, fr, too, t, i, lt, cm, ro, rej, hint, ⟨a10_, b10_, e10_⟩, es, ⟨si0_, st0_, ⟨⟨p0_, n0_, c0_⟩, ⟨q0_, m0_, d0_⟩, f⟩, ⟨a0_, b00_, e00_⟩, dd⟩⟩) 9 _ (by decide) rfl).put (x' := ⟨k, fr, too, t, i, lt, cm, ro, rej, hint, ⟨a1, b1, e1⟩, es, ⟨si0_, st0_, ⟨⟨p0_, n0_, c0_⟩, ⟨q0_, m0_, d0_⟩, f⟩, ⟨a0_, b00_, e00_⟩, dd⟩⟩) 10 _ (by decide) rfl).put (x' := ⟨k, fr, too, t, i, lt, cm, ro, rej, hint, ⟨a1, b1, e1⟩, es, ⟨si, st0_, ⟨⟨p0_, n0_, c0_⟩, ⟨q0_, m0_, d0_⟩, f⟩, ⟨a0_, b00_, e00_⟩, dd⟩⟩) 11 _ (by decide) rfl).put (x' := ⟨k, fr, too, t, i, lt, cm, ro, rej, hint, ⟨a1, b1, e1⟩, es, ⟨si, st, ⟨⟨p0_, n0_, c0_⟩, ⟨q0_, m0_, d0_⟩, f⟩, ⟨a0_, b00_, e00_⟩, dd⟩⟩) 12 _ (by decide) rfl).put (x' := ⟨k, fr, too, t, i, lt, cm, ro, rej, hint, ⟨a1, b1, e1⟩, es, ⟨si, st, ⟨⟨p, n, c⟩, ⟨q0_, m0_, d0_⟩, f⟩, ⟨a0_, b00_, e00_⟩, dd⟩⟩) 13 _ (by decide) rfl).put (x' := ⟨k, fr, too, t, i, lt, cm, ro, rej, hint, ⟨a1, b1, e1⟩, es, ⟨si, st, ⟨⟨p, n, c⟩, ⟨q, m, d⟩, f⟩, ⟨a0_, b00_, e00_⟩, dd⟩⟩) 14 _ (by decide) rfl).put (x' := ⟨k, fr, too, t, i, lt, cm, ro, rej, hint, ⟨a1, b1, e1⟩, es, ⟨si, st, ⟨⟨p, n, c⟩, ⟨q, m, d⟩, f⟩, ⟨a, b0, e0⟩, dd⟩⟩) 15 _ (by decide) rfl)

/-- A message that the call made. -/
structure OwnsM (w : World) (B : Nat) (x : MsgV) : Prop where
  k : inI x.k
  fr : inI x.fr
  too : inI x.«to»
  t : inI x.t
  i : inI x.i
  lt : inI x.lt
  cm : inI x.cm
  ro : inI x.ro
  hint : inI x.hint
  es : OwnsEs w B x.w x.es
  few : x.es.length ≤ 16
  sn : OwnsS w B x.sn
theorem OwnsM.fits {w : World} {B : Nat} {x : MsgV} (h : OwnsM w B x) : FitsM w x :=
  ⟨h.k, h.fr, h.too, h.t, h.i, h.lt, h.cm, h.ro, h.hint, h.es.fits, by have := h.es.fits.n; have := h.few; omega, h.sn.fits⟩
theorem OwnsM.mono {w : World} {B B' : Nat} {x : MsgV} (h : OwnsM w B x) (hB : B' ≤ B) : OwnsM w B' x := ⟨h.k, h.fr, h.too, h.t, h.i, h.lt, h.cm, h.ro, h.hint, h.es.mono hB, h.few, h.sn.mono hB⟩
theorem OwnsM.kept {w w' : World} {B r : Nat} {x : MsgV} (h : OwnsM w B x) (hg : w.grownBy w' (some r)) (hr : r < B) : OwnsM w' B x := ⟨h.k, h.fr, h.too, h.t, h.i, h.lt, h.cm, h.ro, h.hint, h.es.kept hg hr, h.few, h.sn.kept hg hr⟩
theorem OwnsM.cell {w : World} {B b : Nat} {x : MsgV} (h : OwnsM w B x) (hb : b < B) (i : Nat) (v : Value) : OwnsM (w.setCell ⟨b, i, none⟩ v) B x := h.kept (grown_set w b i v) hb
theorem OwnsM.below {w w' : World} {B : Nat} {x : MsgV} (h : OwnsM w B x) (hb : Below w.heap.size w w') : OwnsM w' B x := ⟨h.k, h.fr, h.too, h.t, h.i, h.lt, h.cm, h.ro, h.hint, h.es.below hb, h.few, h.sn.below hb⟩
theorem OwnsM.nil (w : World) (B : Nat) : OwnsM w B noMV := by
  have z : inI 0 := ⟨by decide, by decide⟩
  exact ⟨z, z, z, z, z, z, z, z, z, OwnsEs.nil w B, Nat.zero_le _, OwnsS.nil w B⟩
/-- What is behind the numbers of a message. -/
def mtail10 (k fr too t i lt cm ro : Int) (rej : Bool) (hint : Int) : St → Msg10 × St := bindR (pmes10 k) fun es => bindR (msn10 9 k) fun sn => retR ⟨k, fr, too, t, i, lt, cm, ro, rej, hint, es, sn⟩
theorem mtail10_app (fr too t i lt cm ro : Int) (rej : Bool) (hint : Int) (S : St) : mtail10 5 fr too t i lt cm ro rej hint S = (⟨5, fr, too, t, i, lt, cm, ro, rej, hint, (rdEs S).1, noS10⟩, (rdEs S).2) := by
  have h : pmes10 5 S = ((rdEs S).1, (rdEs S).2) := by unfold pmes10; rw [if_pos rfl, bindR_def]; rfl
  unfold mtail10
  rw [bindR_eq h]
  rfl
theorem mtail10_snap (fr too t i lt cm ro : Int) (rej : Bool) (hint : Int) (S : St) : mtail10 7 fr too t i lt cm ro rej hint S = (⟨7, fr, too, t, i, lt, cm, ro, rej, hint, [], (snap10 9 S).1⟩, (snap10 9 S).2) := by
  have h : pmes10 7 S = ([], S) := rfl
  have h2 : msn10 9 7 S = ((snap10 9 S).1, (snap10 9 S).2) := by unfold msn10; rw [if_pos rfl]
  unfold mtail10
  rw [bindR_eq h, bindR_eq h2]
  rfl
theorem mtail10_else (k fr too t i lt cm ro : Int) (rej : Bool) (hint : Int) (S : St) (h5 : k ≠ 5) (h7 : k ≠ 7) : mtail10 k fr too t i lt cm ro rej hint S = (⟨k, fr, too, t, i, lt, cm, ro, rej, hint, [], noS10⟩, S) := by
  have h : pmes10 k S = ([], S) := by unfold pmes10; rw [if_neg h5]; rfl
  have h2 : msn10 9 k S = (noS10, S) := by unfold msn10; rw [if_neg h7]; rfl
  unfold mtail10
  rw [bindR_eq h, bindR_eq h2]
  rfl
theorem pmsg10_is {S0 S1 S2 S3 S4 S5 S6 S7 S8 S9 S10 : St} {k fr too t i lt cm ro hint : Int} {rej : Bool} (e0 : int9 S0 = (k, S1)) (e1 : int9 S1 = (fr, S2)) (e2 : int9 S2 = (too, S3)) (e3 : int9 S3 = (t, S4)) (e4 : int9 S4 = (i, S5)) (e5 : int9 S5 = (lt, S6)) (e6 : int9 S6 = (cm, S7)) (e7 : int9 S7 = (ro, S8)) (e8 : bool9 S8 = (rej, S9)) (e9 : int9 S9 = (hint, S10)) :
    pmsg10 S0 = mtail10 k fr too t i lt cm ro rej hint S10 := by
  unfold pmsg10
  rw [bindR_eq e0, bindR_eq e1, bindR_eq e2, bindR_eq e3, bindR_eq e4, bindR_eq e5, bindR_eq e6, bindR_eq e7, bindR_eq e8, bindR_eq e9]
  rfl

set_option maxRecDepth 100000 in
set_option maxHeartbeats 8000000 in
theorem msgR_app (w0 w : World) (rb : Nat) (S0 : St) (h : Rdr w0 w rb S0) (hk : (int9 S0).1 = 5) :
    Calls Tryz.prog 45 #[.pointer (some ⟨rb, 0, none⟩)] w fun e w' => ∃ X : MsgV, e = .returned (.agg X.arr) ∧ X.m = (pmsg10 S0).1 ∧ OwnsM w' w.heap.size X ∧ Left10 w0 w rb (pmsg10 S0).2 w' := by
  have hmf : ∀ (fn : Fn) (first cap : Array Value) (w : World), (Instr.makeFunc fn first cap).run Tryz.prog w = .ok (.func fn first cap) w := fun _ _ _ _ => rfl
  have h0 : RdX w0 w _ rb S0 53 #[.int .i64 0, .int .i64 0, .int .i64 0, .int .i64 0, .int .i64 0, .int .i64 0, .int .i64 0, .int .i64 0, .bool false, .int .i64 0, .slice none 0 0, .int .i64 0, .int .i64 0, .slice none 0 0, .slice none 0 0, .slice none 0 0] #[.int .i64 0, .int .i64 0, .int .i64 0, .int .i64 0, .int .i64 0, .int .i64 0, .int .i64 0, .int .i64 0, .bool false, .int .i64 0, .slice none 0 0, .int .i64 0, .int .i64 0, .slice none 0 0, .slice none 0 0, .slice none 0 0] := RdX.new h 53 #[.int .i64 0, .int .i64 0, .int .i64 0, .int .i64 0, .int .i64 0, .int .i64 0, .int .i64 0, .int .i64 0, .bool false, .int .i64 0, .slice none 0 0, .int .i64 0, .int .i64 0, .slice none 0 0, .slice none 0 0, .slice none 0 0]
  have HC : Hid (pmsg10 S0 = pmsg10 S0) := rfl
  revert HC
  generalize hR : pmsg10 S0 = R
  intro HC
  replace HC : Hid (pmsg10 S0 = R) := hR
  clear hR
  have hrl := h.lt
  have HK : Hid ((int9 S0).1 = 5) := hk
  clear hk
  clear h
  go_enter Tryz.func45, Tryz.ntmps45
  have ki0 := h0.r.int
  have HI0 : Hid (inI (int9 S0).1) := int9_in _
  go_wp2_with fail
  refine ki0.mono ?_
  rintro _ y0 ⟨rfl, hl0⟩
  have h1 := h0.left hl0
  clear h0 ki0 hl0
  generalize hA : int9 S0 = A at *
  obtain ⟨z0, S1⟩ := A
  have E0 : Hid (int9 S0 = (z0, S1)) := hA
  clear hA
  dsimp only at h1 HI0 HK
  have ki1 := h1.r.int
  have HI1 : Hid (inI (int9 S1).1) := int9_in _
  go_wp2_with fail
  refine ki1.mono ?_
  rintro _ y1 ⟨rfl, hl1⟩
  have h2 := h1.left hl1
  clear h1 ki1 hl1
  generalize hA : int9 S1 = A at *
  obtain ⟨z1, S2⟩ := A
  have E1 : Hid (int9 S1 = (z1, S2)) := hA
  clear hA
  dsimp only at h2 HI1
  have ki2 := h2.r.int
  have HI2 : Hid (inI (int9 S2).1) := int9_in _
  go_wp2_with fail
  refine ki2.mono ?_
  rintro _ y2 ⟨rfl, hl2⟩
  have h3 := h2.left hl2
  clear h2 ki2 hl2
  generalize hA : int9 S2 = A at *
  obtain ⟨z2, S3⟩ := A
  have E2 : Hid (int9 S2 = (z2, S3)) := hA
  clear hA
  dsimp only at h3 HI2
  have ki3 := h3.r.int
  have HI3 : Hid (inI (int9 S3).1) := int9_in _
  go_wp2_with fail
  refine ki3.mono ?_
  rintro _ y3 ⟨rfl, hl3⟩
  have h4 := h3.left hl3
  clear h3 ki3 hl3
  generalize hA : int9 S3 = A at *
  obtain ⟨z3, S4⟩ := A
  have E3 : Hid (int9 S3 = (z3, S4)) := hA
  clear hA
  dsimp only at h4 HI3
  have c0 := box_cell h4.box 0
  have c1 := box_cell h4.box 1
  have c2 := box_cell h4.box 2
  have c3 := box_cell h4.box 3
  have fb := frozen9 h4.box
  have hlb := box_lt h4.box
  go_upto_region 4 with fail
  have hq4 : RdX w0 w _ rb S4 53 #[.int .i64 z0, .int .i64 z1, .int .i64 z2, .int .i64 z3, .int .i64 0, .int .i64 0, .int .i64 0, .int .i64 0, .bool false, .int .i64 0, .slice none 0 0, .int .i64 0, .int .i64 0, .slice none 0 0, .slice none 0 0, .slice none 0 0] #[.int .i64 0, .int .i64 0, .int .i64 0, .int .i64 0, .int .i64 0, .int .i64 0, .int .i64 0, .int .i64 0, .bool false, .int .i64 0, .slice none 0 0, .int .i64 0, .int .i64 0, .slice none 0 0, .slice none 0 0, .slice none 0 0] := ((((h4.put 0 (.int .i64 z0) (by show 0 < 16; omega)).put 1 (.int .i64 z1) (by show 1 < 16; omega)).put 2 (.int .i64 z2) (by show 2 < 16; omega)).put 3 (.int .i64 z3) (by show 3 < 16; omega))
  clear h4 c0 c1 c2 c3 fb hlb
  generalize ((((y3.setCell ⟨w.heap.size + 1, 0, none⟩ (.int .i64 z0)).setCell ⟨w.heap.size + 1, 1, none⟩ (.int .i64 z1)).setCell ⟨w.heap.size + 1, 2, none⟩ (.int .i64 z2)).setCell ⟨w.heap.size + 1, 3, none⟩ (.int .i64 z3)) = Xhq4 at *
  have h4 := hq4
  clear hq4
  have ki4 := h4.r.int
  have HI4 : Hid (inI (int9 S4).1) := int9_in _
  go_wp2_with fail
  refine ki4.mono ?_
  rintro _ y4 ⟨rfl, hl4⟩
  have h5 := h4.left hl4
  clear h4 ki4 hl4
  generalize hA : int9 S4 = A at *
  obtain ⟨z4, S5⟩ := A
  have E4 : Hid (int9 S4 = (z4, S5)) := hA
  clear hA
  dsimp only at h5 HI4
  have ki5 := h5.r.int
  have HI5 : Hid (inI (int9 S5).1) := int9_in _
  go_wp2_with fail
  refine ki5.mono ?_
  rintro _ y5 ⟨rfl, hl5⟩
  have h6 := h5.left hl5
  clear h5 ki5 hl5
  generalize hA : int9 S5 = A at *
  obtain ⟨z5, S6⟩ := A
  have E5 : Hid (int9 S5 = (z5, S6)) := hA
  clear hA
  dsimp only at h6 HI5
  have ki6 := h6.r.int
  have HI6 : Hid (inI (int9 S6).1) := int9_in _
  go_wp2_with fail
  refine ki6.mono ?_
  rintro _ y6 ⟨rfl, hl6⟩
  have h7 := h6.left hl6
  clear h6 ki6 hl6
  generalize hA : int9 S6 = A at *
  obtain ⟨z6, S7⟩ := A
  have E6 : Hid (int9 S6 = (z6, S7)) := hA
  clear hA
  dsimp only at h7 HI6
  have ki7 := h7.r.int
  have HI7 : Hid (inI (int9 S7).1) := int9_in _
  go_wp2_with fail
  refine ki7.mono ?_
  rintro _ y7 ⟨rfl, hl7⟩
  have h8 := h7.left hl7
  clear h7 ki7 hl7
  generalize hA : int9 S7 = A at *
  obtain ⟨z7, S8⟩ := A
  have E7 : Hid (int9 S7 = (z7, S8)) := hA
  clear hA
  dsimp only at h8 HI7
  have c4 := box_cell h8.box 4
  have c5 := box_cell h8.box 5
  have c6 := box_cell h8.box 6
  have c7 := box_cell h8.box 7
  have fb := frozen9 h8.box
  have hlb := box_lt h8.box
  go_upto_region 5 with fail
  have hq8 : RdX w0 w _ rb S8 53 #[.int .i64 z0, .int .i64 z1, .int .i64 z2, .int .i64 z3, .int .i64 z4, .int .i64 z5, .int .i64 z6, .int .i64 z7, .bool false, .int .i64 0, .slice none 0 0, .int .i64 0, .int .i64 0, .slice none 0 0, .slice none 0 0, .slice none 0 0] #[.int .i64 0, .int .i64 0, .int .i64 0, .int .i64 0, .int .i64 0, .int .i64 0, .int .i64 0, .int .i64 0, .bool false, .int .i64 0, .slice none 0 0, .int .i64 0, .int .i64 0, .slice none 0 0, .slice none 0 0, .slice none 0 0] := ((((h8.put 4 (.int .i64 z4) (by show 4 < 16; omega)).put 5 (.int .i64 z5) (by show 5 < 16; omega)).put 6 (.int .i64 z6) (by show 6 < 16; omega)).put 7 (.int .i64 z7) (by show 7 < 16; omega))
  clear h8 c4 c5 c6 c7 fb hlb
  generalize ((((y7.setCell ⟨w.heap.size + 1, 4, none⟩ (.int .i64 z4)).setCell ⟨w.heap.size + 1, 5, none⟩ (.int .i64 z5)).setCell ⟨w.heap.size + 1, 6, none⟩ (.int .i64 z6)).setCell ⟨w.heap.size + 1, 7, none⟩ (.int .i64 z7)) = Xhq8 at *
  have h8 := hq8
  clear hq8
  have ki8 := h8.r.bool
  go_wp2_with fail
  refine ki8.mono ?_
  rintro _ y8 ⟨rfl, hl8⟩
  have h9 := h8.left hl8
  clear h8 ki8 hl8
  generalize hA : bool9 S8 = A at *
  obtain ⟨z8, S9⟩ := A
  have E8 : Hid (bool9 S8 = (z8, S9)) := hA
  clear hA
  dsimp only at h9
  have c8 := box_cell h9.box 8
  have fb := frozen9 h9.box
  have hlb := box_lt h9.box
  go_upto_region 6 with fail
  have hq9 : RdX w0 w _ rb S9 53 #[.int .i64 z0, .int .i64 z1, .int .i64 z2, .int .i64 z3, .int .i64 z4, .int .i64 z5, .int .i64 z6, .int .i64 z7, .bool z8, .int .i64 0, .slice none 0 0, .int .i64 0, .int .i64 0, .slice none 0 0, .slice none 0 0, .slice none 0 0] #[.int .i64 0, .int .i64 0, .int .i64 0, .int .i64 0, .int .i64 0, .int .i64 0, .int .i64 0, .int .i64 0, .bool false, .int .i64 0, .slice none 0 0, .int .i64 0, .int .i64 0, .slice none 0 0, .slice none 0 0, .slice none 0 0] := (h9.put 8 (.bool z8) (by show 8 < 16; omega))
  clear h9 c8 fb hlb
  generalize (y8.setCell ⟨w.heap.size + 1, 8, none⟩ (.bool z8)) = Xhq9 at *
  have h9 := hq9
  clear hq9
  have ki9 := h9.r.int
  have HI9 : Hid (inI (int9 S9).1) := int9_in _
  go_wp2_with fail
  refine ki9.mono ?_
  rintro _ y9 ⟨rfl, hl9⟩
  have h10 := h9.left hl9
  clear h9 ki9 hl9
  generalize hA : int9 S9 = A at *
  obtain ⟨z9, S10⟩ := A
  have E9 : Hid (int9 S9 = (z9, S10)) := hA
  clear hA
  dsimp only at h10 HI9
  have c9 := box_cell h10.box 9
  have fb := frozen9 h10.box
  have hlb := box_lt h10.box
  go_upto_region 7 with fail
  have hq10 : RdX w0 w _ rb S10 53 #[.int .i64 z0, .int .i64 z1, .int .i64 z2, .int .i64 z3, .int .i64 z4, .int .i64 z5, .int .i64 z6, .int .i64 z7, .bool z8, .int .i64 z9, .slice none 0 0, .int .i64 0, .int .i64 0, .slice none 0 0, .slice none 0 0, .slice none 0 0] #[.int .i64 0, .int .i64 0, .int .i64 0, .int .i64 0, .int .i64 0, .int .i64 0, .int .i64 0, .int .i64 0, .bool false, .int .i64 0, .slice none 0 0, .int .i64 0, .int .i64 0, .slice none 0 0, .slice none 0 0, .slice none 0 0] := (h10.put 9 (.int .i64 z9) (by show 9 < 16; omega))
  clear h10 c9 fb hlb
  generalize (y9.setCell ⟨w.heap.size + 1, 9, none⟩ (.int .i64 z9)) = Xhq10 at *
  have h10 := hq10
  clear hq10
  replace HC : Hid (R = mtail10 z0 z1 z2 z3 z4 z5 z6 z7 z8 z9 S10) := HC.out.symm.trans (pmsg10_is E0.out E1.out E2.out E3.out E4.out E5.out E6.out E7.out E8.out E9.out)
  clear E0 E1 E2 E3 E4 E5 E6 E7 E8 E9
  have c0 := box_cell h10.box 0
  have hlb := box_lt h10.box
  have hws := h10.g.size
  have hb10 := box_lt h10.box
  have e5 : z0 = 5 := HK.out
  clear HK
  have HT : Hid (R = (⟨5, z1, z2, z3, z4, z5, z6, z7, z8, z9, (rdEs S10).1, noS10⟩, (rdEs S10).2)) := by
    rw [Hid, HC.out, e5, mtail10_app]
  have kc := listE_any w0 Xhq10 rb S10 h10.r
  generalize rdEs S10 = A at *
  obtain ⟨le, S11⟩ := A
  dsimp only at kc HT
  subst e5
  clear HC
  go_wp2_with fail
  refine kc.mono ?_
  rintro _ y11 ⟨a1, b1, e1, es, rfl, hO5, hXf, hf5, hl5⟩
  have h11 := h10.left hl5
  have HXf : Hid (es.map EntV.e = le) := hXf
  have HF5 : Hid (es.length ≤ 16) := hf5
  clear kc h10 hl5 c0 hlb hXf hf5
  have c10 := box_cell h11.box 10
  have fb := frozen9 h11.box
  have hlb' := box_lt h11.box
  go_upto_region 12 with fail
  have hx : RdX w0 w _ rb S11 53 #[.int .i64 5, .int .i64 z1, .int .i64 z2, .int .i64 z3, .int .i64 z4, .int .i64 z5, .int .i64 z6, .int .i64 z7, .bool z8, .int .i64 z9, .slice a1 b1 e1, .int .i64 0, .int .i64 0, .slice none 0 0, .slice none 0 0, .slice none 0 0] #[.int .i64 0, .int .i64 0, .int .i64 0, .int .i64 0, .int .i64 0, .int .i64 0, .int .i64 0, .int .i64 0, .bool false, .int .i64 0, .slice none 0 0, .int .i64 0, .int .i64 0, .slice none 0 0, .slice none 0 0, .slice none 0 0] := h11.put 10 (.slice a1 b1 e1) (by show 10 < 16; omega)
  have hO := (hO5.cell (b := w.heap.size + 1) (by omega) 10 (.slice a1 b1 e1)).mono (B' := w.heap.size + 1) (by omega)
  clear h11 hO5 c10 fb hlb'
  generalize y11.setCell ⟨w.heap.size + 1, 10, none⟩ (.slice a1 b1 e1) = X6 at *
  have hM : OwnsM X6 (w.heap.size + 1) ⟨5, z1, z2, z3, z4, z5, z6, z7, z8, z9, ⟨a1, b1, e1⟩, es, noSV⟩ := ⟨HI0.out, HI1.out, HI2.out, HI3.out, HI4.out, HI5.out, HI6.out, HI7.out, HI9.out, hO, HF5.out, OwnsS.nil _ _⟩
  clear hO
  have c0 := box_cell hx.box 0
  have c1 := box_cell hx.box 1
  have c2 := box_cell hx.box 2
  have c3 := box_cell hx.box 3
  have c4 := box_cell hx.box 4
  have c5 := box_cell hx.box 5
  have c6 := box_cell hx.box 6
  have c7 := box_cell hx.box 7
  have c8 := box_cell hx.box 8
  have c9 := box_cell hx.box 9
  have c10 := box_cell hx.box 10
  have c11 := box_cell hx.box 11
  have c12 := box_cell hx.box 12
  have c13 := box_cell hx.box 13
  have c14 := box_cell hx.box 14
  have c15 := box_cell hx.box 15
  have d0 := box_cell hx.res 0
  have d1 := box_cell hx.res 1
  have d2 := box_cell hx.res 2
  have d3 := box_cell hx.res 3
  have d4 := box_cell hx.res 4
  have d5 := box_cell hx.res 5
  have d6 := box_cell hx.res 6
  have d7 := box_cell hx.res 7
  have d8 := box_cell hx.res 8
  have d9 := box_cell hx.res 9
  have d10 := box_cell hx.res 10
  have d11 := box_cell hx.res 11
  have d12 := box_cell hx.res 12
  have d13 := box_cell hx.res 13
  have d14 := box_cell hx.res 14
  have d15 := box_cell hx.res 15
  have fb := frozen9 hx.res
  have hlb := box_lt hx.box
  have hlr := box_lt hx.res
  go_wp2
  have hF := fillM (b := w.heap.size) (x0 := noMV) hx.res 5 z1 z2 z3 z4 z5 z6 z7 z8 z9 a1 b1 e1 0 0 none 0 0 none 0 0 none 0 0 noF10 [] es
  have hR9 := ((((((((((((((((((((((((((((((((hx.r).cell (b := w.heap.size) (by omega) (by omega) 0 (.int .i64 5))).cell (b := w.heap.size) (by omega) (by omega) 1 (.int .i64 z1))).cell (b := w.heap.size) (by omega) (by omega) 2 (.int .i64 z2))).cell (b := w.heap.size) (by omega) (by omega) 3 (.int .i64 z3))).cell (b := w.heap.size) (by omega) (by omega) 4 (.int .i64 z4))).cell (b := w.heap.size) (by omega) (by omega) 5 (.int .i64 z5))).cell (b := w.heap.size) (by omega) (by omega) 6 (.int .i64 z6))).cell (b := w.heap.size) (by omega) (by omega) 7 (.int .i64 z7))).cell (b := w.heap.size) (by omega) (by omega) 8 (.bool z8))).cell (b := w.heap.size) (by omega) (by omega) 9 (.int .i64 z9))).cell (b := w.heap.size) (by omega) (by omega) 10 (.slice a1 b1 e1))).cell (b := w.heap.size) (by omega) (by omega) 11 (.int .i64 0))).cell (b := w.heap.size) (by omega) (by omega) 12 (.int .i64 0))).cell (b := w.heap.size) (by omega) (by omega) 13 (.slice none 0 0))).cell (b := w.heap.size) (by omega) (by omega) 14 (.slice none 0 0))).cell (b := w.heap.size) (by omega) (by omega) 15 (.slice none 0 0))
  have hG9 := (grown_new (b := w.heap.size) (grown_new (b := w.heap.size) (grown_new (b := w.heap.size) (grown_new (b := w.heap.size) (grown_new (b := w.heap.size) (grown_new (b := w.heap.size) (grown_new (b := w.heap.size) (grown_new (b := w.heap.size) (grown_new (b := w.heap.size) (grown_new (b := w.heap.size) (grown_new (b := w.heap.size) (grown_new (b := w.heap.size) (grown_new (b := w.heap.size) (grown_new (b := w.heap.size) (grown_new (b := w.heap.size) (grown_new (b := w.heap.size) hx.g (by omega) 0 (.int .i64 5)) (by omega) 1 (.int .i64 z1)) (by omega) 2 (.int .i64 z2)) (by omega) 3 (.int .i64 z3)) (by omega) 4 (.int .i64 z4)) (by omega) 5 (.int .i64 z5)) (by omega) 6 (.int .i64 z6)) (by omega) 7 (.int .i64 z7)) (by omega) 8 (.bool z8)) (by omega) 9 (.int .i64 z9)) (by omega) 10 (.slice a1 b1 e1)) (by omega) 11 (.int .i64 0)) (by omega) 12 (.int .i64 0)) (by omega) 13 (.slice none 0 0)) (by omega) 14 (.slice none 0 0)) (by omega) 15 (.slice none 0 0))
  have hO9 := ((((((((((((((((((((((((((((((((hM).cell (b := w.heap.size) (by omega) 0 (.int .i64 5))).cell (b := w.heap.size) (by omega) 1 (.int .i64 z1))).cell (b := w.heap.size) (by omega) 2 (.int .i64 z2))).cell (b := w.heap.size) (by omega) 3 (.int .i64 z3))).cell (b := w.heap.size) (by omega) 4 (.int .i64 z4))).cell (b := w.heap.size) (by omega) 5 (.int .i64 z5))).cell (b := w.heap.size) (by omega) 6 (.int .i64 z6))).cell (b := w.heap.size) (by omega) 7 (.int .i64 z7))).cell (b := w.heap.size) (by omega) 8 (.bool z8))).cell (b := w.heap.size) (by omega) 9 (.int .i64 z9))).cell (b := w.heap.size) (by omega) 10 (.slice a1 b1 e1))).cell (b := w.heap.size) (by omega) 11 (.int .i64 0))).cell (b := w.heap.size) (by omega) 12 (.int .i64 0))).cell (b := w.heap.size) (by omega) 13 (.slice none 0 0))).cell (b := w.heap.size) (by omega) 14 (.slice none 0 0))).cell (b := w.heap.size) (by omega) 15 (.slice none 0 0))
  
  refine bodyPost_ret (ret_one rfl _ _ w.heap.size _ _ _ _ rfl hF Tryz.underlying53 rfl (by kernel_rfl)) rfl ⟨⟨5, z1, z2, z3, z4, z5, z6, z7, z8, z9, ⟨a1, b1, e1⟩, es, noSV⟩, rfl, ?_, hO9.mono (by omega), ?_, hG9⟩
  · rw [HT.out, ← HXf.out]; rfl
  · rw [HT.out]; exact hR9

set_option maxRecDepth 100000 in
set_option maxHeartbeats 8000000 in
theorem msgR_snap (w0 w : World) (rb : Nat) (S0 : St) (h : Rdr w0 w rb S0) (hk : (int9 S0).1 = 7) :
    Calls Tryz.prog 45 #[.pointer (some ⟨rb, 0, none⟩)] w fun e w' => ∃ X : MsgV, e = .returned (.agg X.arr) ∧ X.m = (pmsg10 S0).1 ∧ OwnsM w' w.heap.size X ∧ Left10 w0 w rb (pmsg10 S0).2 w' := by
  have hmf : ∀ (fn : Fn) (first cap : Array Value) (w : World), (Instr.makeFunc fn first cap).run Tryz.prog w = .ok (.func fn first cap) w := fun _ _ _ _ => rfl
  have h0 : RdX w0 w _ rb S0 53 #[.int .i64 0, .int .i64 0, .int .i64 0, .int .i64 0, .int .i64 0, .int .i64 0, .int .i64 0, .int .i64 0, .bool false, .int .i64 0, .slice none 0 0, .int .i64 0, .int .i64 0, .slice none 0 0, .slice none 0 0, .slice none 0 0] #[.int .i64 0, .int .i64 0, .int .i64 0, .int .i64 0, .int .i64 0, .int .i64 0, .int .i64 0, .int .i64 0, .bool false, .int .i64 0, .slice none 0 0, .int .i64 0, .int .i64 0, .slice none 0 0, .slice none 0 0, .slice none 0 0] := RdX.new h 53 #[.int .i64 0, .int .i64 0, .int .i64 0, .int .i64 0, .int .i64 0, .int .i64 0, .int .i64 0, .int .i64 0, .bool false, .int .i64 0, .slice none 0 0, .int .i64 0, .int .i64 0, .slice none 0 0, .slice none 0 0, .slice none 0 0]
  have HC : Hid (pmsg10 S0 = pmsg10 S0) := rfl
  revert HC
  generalize hR : pmsg10 S0 = R
  intro HC
  replace HC : Hid (pmsg10 S0 = R) := hR
  clear hR
  have hrl := h.lt
  have HK : Hid ((int9 S0).1 = 7) := hk
  clear hk
  clear h
  go_enter Tryz.func45, Tryz.ntmps45
  have ki0 := h0.r.int
  have HI0 : Hid (inI (int9 S0).1) := int9_in _
  go_wp2_with fail
  refine ki0.mono ?_
  rintro _ y0 ⟨rfl, hl0⟩
  have h1 := h0.left hl0
  clear h0 ki0 hl0
  generalize hA : int9 S0 = A at *
  obtain ⟨z0, S1⟩ := A
  have E0 : Hid (int9 S0 = (z0, S1)) := hA
  clear hA
  dsimp only at h1 HI0 HK
  have ki1 := h1.r.int
  have HI1 : Hid (inI (int9 S1).1) := int9_in _
  go_wp2_with fail
  refine ki1.mono ?_
  rintro _ y1 ⟨rfl, hl1⟩
  have h2 := h1.left hl1
  clear h1 ki1 hl1
  generalize hA : int9 S1 = A at *
  obtain ⟨z1, S2⟩ := A
  have E1 : Hid (int9 S1 = (z1, S2)) := hA
  clear hA
  dsimp only at h2 HI1
  have ki2 := h2.r.int
  have HI2 : Hid (inI (int9 S2).1) := int9_in _
  go_wp2_with fail
  refine ki2.mono ?_
  rintro _ y2 ⟨rfl, hl2⟩
  have h3 := h2.left hl2
  clear h2 ki2 hl2
  generalize hA : int9 S2 = A at *
  obtain ⟨z2, S3⟩ := A
  have E2 : Hid (int9 S2 = (z2, S3)) := hA
  clear hA
  dsimp only at h3 HI2
  have ki3 := h3.r.int
  have HI3 : Hid (inI (int9 S3).1) := int9_in _
  go_wp2_with fail
  refine ki3.mono ?_
  rintro _ y3 ⟨rfl, hl3⟩
  have h4 := h3.left hl3
  clear h3 ki3 hl3
  generalize hA : int9 S3 = A at *
  obtain ⟨z3, S4⟩ := A
  have E3 : Hid (int9 S3 = (z3, S4)) := hA
  clear hA
  dsimp only at h4 HI3
  have c0 := box_cell h4.box 0
  have c1 := box_cell h4.box 1
  have c2 := box_cell h4.box 2
  have c3 := box_cell h4.box 3
  have fb := frozen9 h4.box
  have hlb := box_lt h4.box
  go_upto_region 4 with fail
  have hq4 : RdX w0 w _ rb S4 53 #[.int .i64 z0, .int .i64 z1, .int .i64 z2, .int .i64 z3, .int .i64 0, .int .i64 0, .int .i64 0, .int .i64 0, .bool false, .int .i64 0, .slice none 0 0, .int .i64 0, .int .i64 0, .slice none 0 0, .slice none 0 0, .slice none 0 0] #[.int .i64 0, .int .i64 0, .int .i64 0, .int .i64 0, .int .i64 0, .int .i64 0, .int .i64 0, .int .i64 0, .bool false, .int .i64 0, .slice none 0 0, .int .i64 0, .int .i64 0, .slice none 0 0, .slice none 0 0, .slice none 0 0] := ((((h4.put 0 (.int .i64 z0) (by show 0 < 16; omega)).put 1 (.int .i64 z1) (by show 1 < 16; omega)).put 2 (.int .i64 z2) (by show 2 < 16; omega)).put 3 (.int .i64 z3) (by show 3 < 16; omega))
  clear h4 c0 c1 c2 c3 fb hlb
  generalize ((((y3.setCell ⟨w.heap.size + 1, 0, none⟩ (.int .i64 z0)).setCell ⟨w.heap.size + 1, 1, none⟩ (.int .i64 z1)).setCell ⟨w.heap.size + 1, 2, none⟩ (.int .i64 z2)).setCell ⟨w.heap.size + 1, 3, none⟩ (.int .i64 z3)) = Xhq4 at *
  have h4 := hq4
  clear hq4
  have ki4 := h4.r.int
  have HI4 : Hid (inI (int9 S4).1) := int9_in _
  go_wp2_with fail
  refine ki4.mono ?_
  rintro _ y4 ⟨rfl, hl4⟩
  have h5 := h4.left hl4
  clear h4 ki4 hl4
  generalize hA : int9 S4 = A at *
  obtain ⟨z4, S5⟩ := A
  have E4 : Hid (int9 S4 = (z4, S5)) := hA
  clear hA
  dsimp only at h5 HI4
  have ki5 := h5.r.int
  have HI5 : Hid (inI (int9 S5).1) := int9_in _
  go_wp2_with fail
  refine ki5.mono ?_
  rintro _ y5 ⟨rfl, hl5⟩
  have h6 := h5.left hl5
  clear h5 ki5 hl5
  generalize hA : int9 S5 = A at *
  obtain ⟨z5, S6⟩ := A
  have E5 : Hid (int9 S5 = (z5, S6)) := hA
  clear hA
  dsimp only at h6 HI5
  have ki6 := h6.r.int
  have HI6 : Hid (inI (int9 S6).1) := int9_in _
  go_wp2_with fail
  refine ki6.mono ?_
  rintro _ y6 ⟨rfl, hl6⟩
  have h7 := h6.left hl6
  clear h6 ki6 hl6
  generalize hA : int9 S6 = A at *
  obtain ⟨z6, S7⟩ := A
  have E6 : Hid (int9 S6 = (z6, S7)) := hA
  clear hA
  dsimp only at h7 HI6
  have ki7 := h7.r.int
  have HI7 : Hid (inI (int9 S7).1) := int9_in _
  go_wp2_with fail
  refine ki7.mono ?_
  rintro _ y7 ⟨rfl, hl7⟩
  have h8 := h7.left hl7
  clear h7 ki7 hl7
  generalize hA : int9 S7 = A at *
  obtain ⟨z7, S8⟩ := A
  have E7 : Hid (int9 S7 = (z7, S8)) := hA
  clear hA
  dsimp only at h8 HI7
  have c4 := box_cell h8.box 4
  have c5 := box_cell h8.box 5
  have c6 := box_cell h8.box 6
  have c7 := box_cell h8.box 7
  have fb := frozen9 h8.box
  have hlb := box_lt h8.box
  go_upto_region 5 with fail
  have hq8 : RdX w0 w _ rb S8 53 #[.int .i64 z0, .int .i64 z1, .int .i64 z2, .int .i64 z3, .int .i64 z4, .int .i64 z5, .int .i64 z6, .int .i64 z7, .bool false, .int .i64 0, .slice none 0 0, .int .i64 0, .int .i64 0, .slice none 0 0, .slice none 0 0, .slice none 0 0] #[.int .i64 0, .int .i64 0, .int .i64 0, .int .i64 0, .int .i64 0, .int .i64 0, .int .i64 0, .int .i64 0, .bool false, .int .i64 0, .slice none 0 0, .int .i64 0, .int .i64 0, .slice none 0 0, .slice none 0 0, .slice none 0 0] := ((((h8.put 4 (.int .i64 z4) (by show 4 < 16; omega)).put 5 (.int .i64 z5) (by show 5 < 16; omega)).put 6 (.int .i64 z6) (by show 6 < 16; omega)).put 7 (.int .i64 z7) (by show 7 < 16; omega))
  clear h8 c4 c5 c6 c7 fb hlb
  generalize ((((y7.setCell ⟨w.heap.size + 1, 4, none⟩ (.int .i64 z4)).setCell ⟨w.heap.size + 1, 5, none⟩ (.int .i64 z5)).setCell ⟨w.heap.size + 1, 6, none⟩ (.int .i64 z6)).setCell ⟨w.heap.size + 1, 7, none⟩ (.int .i64 z7)) = Xhq8 at *
  have h8 := hq8
  clear hq8
  have ki8 := h8.r.bool
  go_wp2_with fail
  refine ki8.mono ?_
  rintro _ y8 ⟨rfl, hl8⟩
  have h9 := h8.left hl8
  clear h8 ki8 hl8
  generalize hA : bool9 S8 = A at *
  obtain ⟨z8, S9⟩ := A
  have E8 : Hid (bool9 S8 = (z8, S9)) := hA
  clear hA
  dsimp only at h9
  have c8 := box_cell h9.box 8
  have fb := frozen9 h9.box
  have hlb := box_lt h9.box
  go_upto_region 6 with fail
  have hq9 : RdX w0 w _ rb S9 53 #[.int .i64 z0, .int .i64 z1, .int .i64 z2, .int .i64 z3, .int .i64 z4, .int .i64 z5, .int .i64 z6, .int .i64 z7, .bool z8, .int .i64 0, .slice none 0 0, .int .i64 0, .int .i64 0, .slice none 0 0, .slice none 0 0, .slice none 0 0] #[.int .i64 0, .int .i64 0, .int .i64 0, .int .i64 0, .int .i64 0, .int .i64 0, .int .i64 0, .int .i64 0, .bool false, .int .i64 0, .slice none 0 0, .int .i64 0, .int .i64 0, .slice none 0 0, .slice none 0 0, .slice none 0 0] := (h9.put 8 (.bool z8) (by show 8 < 16; omega))
  clear h9 c8 fb hlb
  generalize (y8.setCell ⟨w.heap.size + 1, 8, none⟩ (.bool z8)) = Xhq9 at *
  have h9 := hq9
  clear hq9
  have ki9 := h9.r.int
  have HI9 : Hid (inI (int9 S9).1) := int9_in _
  go_wp2_with fail
  refine ki9.mono ?_
  rintro _ y9 ⟨rfl, hl9⟩
  have h10 := h9.left hl9
  clear h9 ki9 hl9
  generalize hA : int9 S9 = A at *
  obtain ⟨z9, S10⟩ := A
  have E9 : Hid (int9 S9 = (z9, S10)) := hA
  clear hA
  dsimp only at h10 HI9
  have c9 := box_cell h10.box 9
  have fb := frozen9 h10.box
  have hlb := box_lt h10.box
  go_upto_region 7 with fail
  have hq10 : RdX w0 w _ rb S10 53 #[.int .i64 z0, .int .i64 z1, .int .i64 z2, .int .i64 z3, .int .i64 z4, .int .i64 z5, .int .i64 z6, .int .i64 z7, .bool z8, .int .i64 z9, .slice none 0 0, .int .i64 0, .int .i64 0, .slice none 0 0, .slice none 0 0, .slice none 0 0] #[.int .i64 0, .int .i64 0, .int .i64 0, .int .i64 0, .int .i64 0, .int .i64 0, .int .i64 0, .int .i64 0, .bool false, .int .i64 0, .slice none 0 0, .int .i64 0, .int .i64 0, .slice none 0 0, .slice none 0 0, .slice none 0 0] := (h10.put 9 (.int .i64 z9) (by show 9 < 16; omega))
  clear h10 c9 fb hlb
  generalize (y9.setCell ⟨w.heap.size + 1, 9, none⟩ (.int .i64 z9)) = Xhq10 at *
  have h10 := hq10
  clear hq10
  replace HC : Hid (R = mtail10 z0 z1 z2 z3 z4 z5 z6 z7 z8 z9 S10) := HC.out.symm.trans (pmsg10_is E0.out E1.out E2.out E3.out E4.out E5.out E6.out E7.out E8.out E9.out)
  clear E0 E1 E2 E3 E4 E5 E6 E7 E8 E9
  have c0 := box_cell h10.box 0
  have hlb := box_lt h10.box
  have hws := h10.g.size
  have hb10 := box_lt h10.box
  have e7 : z0 = 7 := HK.out
  clear HK
  have HT : Hid (R = (⟨7, z1, z2, z3, z4, z5, z6, z7, z8, z9, [], (snap10 9 S10).1⟩, (snap10 9 S10).2)) := by
    rw [Hid, HC.out, e7, mtail10_snap]
  have kc := snapR_any w0 Xhq10 rb S10 h10.r
  generalize snap10 9 S10 = A at *
  obtain ⟨sn, S11⟩ := A
  dsimp only at kc HT
  subst e7
  clear HC
  go_wp2_with fail
  refine kc.mono ?_
  rintro _ y11 ⟨X, rfl, hXf, hO5, hl5⟩
  have h11 := h10.left hl5
  have HXf : Hid (X.s = sn) := hXf
  clear kc h10 hl5 c0 hlb hXf
  obtain ⟨si, st, ⟨⟨p, n, c⟩, ⟨q, m, d⟩, f⟩, ⟨a, b0, e0⟩, dd⟩ := X
  unfold SnapV.arr
  dsimp only
  have c11 := box_cell h11.box 11
  have c12 := box_cell h11.box 12
  have c13 := box_cell h11.box 13
  have c14 := box_cell h11.box 14
  have c15 := box_cell h11.box 15
  have fb := frozen9 h11.box
  have hlb' := box_lt h11.box
  go_upto_region 12 with fail
  have hx : RdX w0 w _ rb S11 53 #[.int .i64 7, .int .i64 z1, .int .i64 z2, .int .i64 z3, .int .i64 z4, .int .i64 z5, .int .i64 z6, .int .i64 z7, .bool z8, .int .i64 z9, .slice none 0 0, .int .i64 si, .int .i64 st, .slice p n c, .slice q m d, .slice a b0 e0] #[.int .i64 0, .int .i64 0, .int .i64 0, .int .i64 0, .int .i64 0, .int .i64 0, .int .i64 0, .int .i64 0, .bool false, .int .i64 0, .slice none 0 0, .int .i64 0, .int .i64 0, .slice none 0 0, .slice none 0 0, .slice none 0 0] := (((((h11.put 11 (.int .i64 si) (by show 11 < 16; omega)).put 12 (.int .i64 st) (by show 12 < 16; omega)).put 13 (.slice p n c) (by show 13 < 16; omega)).put 14 (.slice q m d) (by show 14 < 16; omega)).put 15 (.slice a b0 e0) (by show 15 < 16; omega))
  have hO := (((((((((((hO5).cell (b := w.heap.size + 1) (by omega) 11 (.int .i64 si))).cell (b := w.heap.size + 1) (by omega) 12 (.int .i64 st))).cell (b := w.heap.size + 1) (by omega) 13 (.slice p n c))).cell (b := w.heap.size + 1) (by omega) 14 (.slice q m d))).cell (b := w.heap.size + 1) (by omega) 15 (.slice a b0 e0))).mono (B' := w.heap.size + 1) (by omega)
  clear h11 hO5 c11 c12 c13 c14 c15 fb hlb'
  generalize (((((y11.setCell ⟨w.heap.size + 1, 11, none⟩ (.int .i64 si)).setCell ⟨w.heap.size + 1, 12, none⟩ (.int .i64 st)).setCell ⟨w.heap.size + 1, 13, none⟩ (.slice p n c)).setCell ⟨w.heap.size + 1, 14, none⟩ (.slice q m d)).setCell ⟨w.heap.size + 1, 15, none⟩ (.slice a b0 e0)) = X6 at *
  have hM : OwnsM X6 (w.heap.size + 1) ⟨7, z1, z2, z3, z4, z5, z6, z7, z8, z9, nilS10, [], ⟨si, st, ⟨⟨p, n, c⟩, ⟨q, m, d⟩, f⟩, ⟨a, b0, e0⟩, dd⟩⟩ := ⟨HI0.out, HI1.out, HI2.out, HI3.out, HI4.out, HI5.out, HI6.out, HI7.out, HI9.out, OwnsEs.nil _ _, Nat.zero_le _, hO⟩
  clear hO
  have c0 := box_cell hx.box 0
  have c1 := box_cell hx.box 1
  have c2 := box_cell hx.box 2
  have c3 := box_cell hx.box 3
  have c4 := box_cell hx.box 4
  have c5 := box_cell hx.box 5
  have c6 := box_cell hx.box 6
  have c7 := box_cell hx.box 7
  have c8 := box_cell hx.box 8
  have c9 := box_cell hx.box 9
  have c10 := box_cell hx.box 10
  have c11 := box_cell hx.box 11
  have c12 := box_cell hx.box 12
  have c13 := box_cell hx.box 13
  have c14 := box_cell hx.box 14
  have c15 := box_cell hx.box 15
  have d0 := box_cell hx.res 0
  have d1 := box_cell hx.res 1
  have d2 := box_cell hx.res 2
  have d3 := box_cell hx.res 3
  have d4 := box_cell hx.res 4
  have d5 := box_cell hx.res 5
  have d6 := box_cell hx.res 6
  have d7 := box_cell hx.res 7
  have d8 := box_cell hx.res 8
  have d9 := box_cell hx.res 9
  have d10 := box_cell hx.res 10
  have d11 := box_cell hx.res 11
  have d12 := box_cell hx.res 12
  have d13 := box_cell hx.res 13
  have d14 := box_cell hx.res 14
  have d15 := box_cell hx.res 15
  have fb := frozen9 hx.res
  have hlb := box_lt hx.box
  have hlr := box_lt hx.res
  go_wp2
  have hF := fillM (b := w.heap.size) (x0 := noMV) hx.res 7 z1 z2 z3 z4 z5 z6 z7 z8 z9 none 0 0 si st p n c q m d a b0 e0 f dd []
  have hR9 := ((((((((((((((((((((((((((((((((hx.r).cell (b := w.heap.size) (by omega) (by omega) 0 (.int .i64 7))).cell (b := w.heap.size) (by omega) (by omega) 1 (.int .i64 z1))).cell (b := w.heap.size) (by omega) (by omega) 2 (.int .i64 z2))).cell (b := w.heap.size) (by omega) (by omega) 3 (.int .i64 z3))).cell (b := w.heap.size) (by omega) (by omega) 4 (.int .i64 z4))).cell (b := w.heap.size) (by omega) (by omega) 5 (.int .i64 z5))).cell (b := w.heap.size) (by omega) (by omega) 6 (.int .i64 z6))).cell (b := w.heap.size) (by omega) (by omega) 7 (.int .i64 z7))).cell (b := w.heap.size) (by omega) (by omega) 8 (.bool z8))).cell (b := w.heap.size) (by omega) (by omega) 9 (.int .i64 z9))).cell (b := w.heap.size) (by omega) (by omega) 10 (.slice none 0 0))).cell (b := w.heap.size) (by omega) (by omega) 11 (.int .i64 si))).cell (b := w.heap.size) (by omega) (by omega) 12 (.int .i64 st))).cell (b := w.heap.size) (by omega) (by omega) 13 (.slice p n c))).cell (b := w.heap.size) (by omega) (by omega) 14 (.slice q m d))).cell (b := w.heap.size) (by omega) (by omega) 15 (.slice a b0 e0))
  have hG9 := (grown_new (b := w.heap.size) (grown_new (b := w.heap.size) (grown_new (b := w.heap.size) (grown_new (b := w.heap.size) (grown_new (b := w.heap.size) (grown_new (b := w.heap.size) (grown_new (b := w.heap.size) (grown_new (b := w.heap.size) (grown_new (b := w.heap.size) (grown_new (b := w.heap.size) (grown_new (b := w.heap.size) (grown_new (b := w.heap.size) (grown_new (b := w.heap.size) (grown_new (b := w.heap.size) (grown_new (b := w.heap.size) (grown_new (b := w.heap.size) hx.g (by omega) 0 (.int .i64 7)) (by omega) 1 (.int .i64 z1)) (by omega) 2 (.int .i64 z2)) (by omega) 3 (.int .i64 z3)) (by omega) 4 (.int .i64 z4)) (by omega) 5 (.int .i64 z5)) (by omega) 6 (.int .i64 z6)) (by omega) 7 (.int .i64 z7)) (by omega) 8 (.bool z8)) (by omega) 9 (.int .i64 z9)) (by omega) 10 (.slice none 0 0)) (by omega) 11 (.int .i64 si)) (by omega) 12 (.int .i64 st)) (by omega) 13 (.slice p n c)) (by omega) 14 (.slice q m d)) (by omega) 15 (.slice a b0 e0))
  have hO9 := ((((((((((((((((((((((((((((((((hM).cell (b := w.heap.size) (by omega) 0 (.int .i64 7))).cell (b := w.heap.size) (by omega) 1 (.int .i64 z1))).cell (b := w.heap.size) (by omega) 2 (.int .i64 z2))).cell (b := w.heap.size) (by omega) 3 (.int .i64 z3))).cell (b := w.heap.size) (by omega) 4 (.int .i64 z4))).cell (b := w.heap.size) (by omega) 5 (.int .i64 z5))).cell (b := w.heap.size) (by omega) 6 (.int .i64 z6))).cell (b := w.heap.size) (by omega) 7 (.int .i64 z7))).cell (b := w.heap.size) (by omega) 8 (.bool z8))).cell (b := w.heap.size) (by omega) 9 (.int .i64 z9))).cell (b := w.heap.size) (by omega) 10 (.slice none 0 0))).cell (b := w.heap.size) (by omega) 11 (.int .i64 si))).cell (b := w.heap.size) (by omega) 12 (.int .i64 st))).cell (b := w.heap.size) (by omega) 13 (.slice p n c))).cell (b := w.heap.size) (by omega) 14 (.slice q m d))).cell (b := w.heap.size) (by omega) 15 (.slice a b0 e0))
  
  refine bodyPost_ret (ret_one rfl _ _ w.heap.size _ _ _ _ rfl hF Tryz.underlying53 rfl (by kernel_rfl)) rfl ⟨⟨7, z1, z2, z3, z4, z5, z6, z7, z8, z9, nilS10, [], ⟨si, st, ⟨⟨p, n, c⟩, ⟨q, m, d⟩, f⟩, ⟨a, b0, e0⟩, dd⟩⟩, rfl, ?_, hO9.mono (by omega), ?_, hG9⟩
  · rw [HT.out, ← HXf.out]; rfl
  · rw [HT.out]; exact hR9

set_option maxRecDepth 100000 in
set_option maxHeartbeats 8000000 in
theorem msgR_else (w0 w : World) (rb : Nat) (S0 : St) (h : Rdr w0 w rb S0) (hk : (int9 S0).1 ≠ 5 ∧ (int9 S0).1 ≠ 7) :
    Calls Tryz.prog 45 #[.pointer (some ⟨rb, 0, none⟩)] w fun e w' => ∃ X : MsgV, e = .returned (.agg X.arr) ∧ X.m = (pmsg10 S0).1 ∧ OwnsM w' w.heap.size X ∧ Left10 w0 w rb (pmsg10 S0).2 w' := by
  have hmf : ∀ (fn : Fn) (first cap : Array Value) (w : World), (Instr.makeFunc fn first cap).run Tryz.prog w = .ok (.func fn first cap) w := fun _ _ _ _ => rfl
  have h0 : RdX w0 w _ rb S0 53 #[.int .i64 0, .int .i64 0, .int .i64 0, .int .i64 0, .int .i64 0, .int .i64 0, .int .i64 0, .int .i64 0, .bool false, .int .i64 0, .slice none 0 0, .int .i64 0, .int .i64 0, .slice none 0 0, .slice none 0 0, .slice none 0 0] #[.int .i64 0, .int .i64 0, .int .i64 0, .int .i64 0, .int .i64 0, .int .i64 0, .int .i64 0, .int .i64 0, .bool false, .int .i64 0, .slice none 0 0, .int .i64 0, .int .i64 0, .slice none 0 0, .slice none 0 0, .slice none 0 0] := RdX.new h 53 #[.int .i64 0, .int .i64 0, .int .i64 0, .int .i64 0, .int .i64 0, .int .i64 0, .int .i64 0, .int .i64 0, .bool false, .int .i64 0, .slice none 0 0, .int .i64 0, .int .i64 0, .slice none 0 0, .slice none 0 0, .slice none 0 0]
  have HC : Hid (pmsg10 S0 = pmsg10 S0) := rfl
  revert HC
  generalize hR : pmsg10 S0 = R
  intro HC
  replace HC : Hid (pmsg10 S0 = R) := hR
  clear hR
  have hrl := h.lt
  have HK : Hid ((int9 S0).1 ≠ 5 ∧ (int9 S0).1 ≠ 7) := hk
  clear hk
  clear h
  go_enter Tryz.func45, Tryz.ntmps45
  have ki0 := h0.r.int
  have HI0 : Hid (inI (int9 S0).1) := int9_in _
  go_wp2_with fail
  refine ki0.mono ?_
  rintro _ y0 ⟨rfl, hl0⟩
  have h1 := h0.left hl0
  clear h0 ki0 hl0
  generalize hA : int9 S0 = A at *
  obtain ⟨z0, S1⟩ := A
  have E0 : Hid (int9 S0 = (z0, S1)) := hA
  clear hA
  dsimp only at h1 HI0 HK
  have ki1 := h1.r.int
  have HI1 : Hid (inI (int9 S1).1) := int9_in _
  go_wp2_with fail
  refine ki1.mono ?_
  rintro _ y1 ⟨rfl, hl1⟩
  have h2 := h1.left hl1
  clear h1 ki1 hl1
  generalize hA : int9 S1 = A at *
  obtain ⟨z1, S2⟩ := A
  have E1 : Hid (int9 S1 = (z1, S2)) := hA
  clear hA
  dsimp only at h2 HI1
  have ki2 := h2.r.int
  have HI2 : Hid (inI (int9 S2).1) := int9_in _
  go_wp2_with fail
  refine ki2.mono ?_
  rintro _ y2 ⟨rfl, hl2⟩
  have h3 := h2.left hl2
  clear h2 ki2 hl2
  generalize hA : int9 S2 = A at *
  obtain ⟨z2, S3⟩ := A
  have E2 : Hid (int9 S2 = (z2, S3)) := hA
  clear hA
  dsimp only at h3 HI2
  have ki3 := h3.r.int
  have HI3 : Hid (inI (int9 S3).1) := int9_in _
  go_wp2_with fail
  refine ki3.mono ?_
  rintro _ y3 ⟨rfl, hl3⟩
  have h4 := h3.left hl3
  clear h3 ki3 hl3
  generalize hA : int9 S3 = A at *
  obtain ⟨z3, S4⟩ := A
  have E3 : Hid (int9 S3 = (z3, S4)) := hA
  clear hA
  dsimp only at h4 HI3
  have c0 := box_cell h4.box 0
  have c1 := box_cell h4.box 1
  have c2 := box_cell h4.box 2
  have c3 := box_cell h4.box 3
  have fb := frozen9 h4.box
  have hlb := box_lt h4.box
  go_upto_region 4 with fail
  have hq4 : RdX w0 w _ rb S4 53 #[.int .i64 z0, .int .i64 z1, .int .i64 z2, .int .i64 z3, .int .i64 0, .int .i64 0, .int .i64 0, .int .i64 0, .bool false, .int .i64 0, .slice none 0 0, .int .i64 0, .int .i64 0, .slice none 0 0, .slice none 0 0, .slice none 0 0] #[.int .i64 0, .int .i64 0, .int .i64 0, .int .i64 0, .int .i64 0, .int .i64 0, .int .i64 0, .int .i64 0, .bool false, .int .i64 0, .slice none 0 0, .int .i64 0, .int .i64 0, .slice none 0 0, .slice none 0 0, .slice none 0 0] := ((((h4.put 0 (.int .i64 z0) (by show 0 < 16; omega)).put 1 (.int .i64 z1) (by show 1 < 16; omega)).put 2 (.int .i64 z2) (by show 2 < 16; omega)).put 3 (.int .i64 z3) (by show 3 < 16; omega))
  clear h4 c0 c1 c2 c3 fb hlb
  generalize ((((y3.setCell ⟨w.heap.size + 1, 0, none⟩ (.int .i64 z0)).setCell ⟨w.heap.size + 1, 1, none⟩ (.int .i64 z1)).setCell ⟨w.heap.size + 1, 2, none⟩ (.int .i64 z2)).setCell ⟨w.heap.size + 1, 3, none⟩ (.int .i64 z3)) = Xhq4 at *
  have h4 := hq4
  clear hq4
  have ki4 := h4.r.int
  have HI4 : Hid (inI (int9 S4).1) := int9_in _
  go_wp2_with fail
  refine ki4.mono ?_
  rintro _ y4 ⟨rfl, hl4⟩
  have h5 := h4.left hl4
  clear h4 ki4 hl4
  generalize hA : int9 S4 = A at *
  obtain ⟨z4, S5⟩ := A
  have E4 : Hid (int9 S4 = (z4, S5)) := hA
  clear hA
  dsimp only at h5 HI4
  have ki5 := h5.r.int
  have HI5 : Hid (inI (int9 S5).1) := int9_in _
  go_wp2_with fail
  refine ki5.mono ?_
  rintro _ y5 ⟨rfl, hl5⟩
  have h6 := h5.left hl5
  clear h5 ki5 hl5
  generalize hA : int9 S5 = A at *
  obtain ⟨z5, S6⟩ := A
  have E5 : Hid (int9 S5 = (z5, S6)) := hA
  clear hA
  dsimp only at h6 HI5
  have ki6 := h6.r.int
  have HI6 : Hid (inI (int9 S6).1) := int9_in _
  go_wp2_with fail
  refine ki6.mono ?_
  rintro _ y6 ⟨rfl, hl6⟩
  have h7 := h6.left hl6
  clear h6 ki6 hl6
  generalize hA : int9 S6 = A at *
  obtain ⟨z6, S7⟩ := A
  have E6 : Hid (int9 S6 = (z6, S7)) := hA
  clear hA
  dsimp only at h7 HI6
  have ki7 := h7.r.int
  have HI7 : Hid (inI (int9 S7).1) := int9_in _
  go_wp2_with fail
  refine ki7.mono ?_
  rintro _ y7 ⟨rfl, hl7⟩
  have h8 := h7.left hl7
  clear h7 ki7 hl7
  generalize hA : int9 S7 = A at *
  obtain ⟨z7, S8⟩ := A
  have E7 : Hid (int9 S7 = (z7, S8)) := hA
  clear hA
  dsimp only at h8 HI7
  have c4 := box_cell h8.box 4
  have c5 := box_cell h8.box 5
  have c6 := box_cell h8.box 6
  have c7 := box_cell h8.box 7
  have fb := frozen9 h8.box
  have hlb := box_lt h8.box
  go_upto_region 5 with fail
  have hq8 : RdX w0 w _ rb S8 53 #[.int .i64 z0, .int .i64 z1, .int .i64 z2, .int .i64 z3, .int .i64 z4, .int .i64 z5, .int .i64 z6, .int .i64 z7, .bool false, .int .i64 0, .slice none 0 0, .int .i64 0, .int .i64 0, .slice none 0 0, .slice none 0 0, .slice none 0 0] #[.int .i64 0, .int .i64 0, .int .i64 0, .int .i64 0, .int .i64 0, .int .i64 0, .int .i64 0, .int .i64 0, .bool false, .int .i64 0, .slice none 0 0, .int .i64 0, .int .i64 0, .slice none 0 0, .slice none 0 0, .slice none 0 0] := ((((h8.put 4 (.int .i64 z4) (by show 4 < 16; omega)).put 5 (.int .i64 z5) (by show 5 < 16; omega)).put 6 (.int .i64 z6) (by show 6 < 16; omega)).put 7 (.int .i64 z7) (by show 7 < 16; omega))
  clear h8 c4 c5 c6 c7 fb hlb
  generalize ((((y7.setCell ⟨w.heap.size + 1, 4, none⟩ (.int .i64 z4)).setCell ⟨w.heap.size + 1, 5, none⟩ (.int .i64 z5)).setCell ⟨w.heap.size + 1, 6, none⟩ (.int .i64 z6)).setCell ⟨w.heap.size + 1, 7, none⟩ (.int .i64 z7)) = Xhq8 at *
  have h8 := hq8
  clear hq8
  have ki8 := h8.r.bool
  go_wp2_with fail
  refine ki8.mono ?_
  rintro _ y8 ⟨rfl, hl8⟩
  have h9 := h8.left hl8
  clear h8 ki8 hl8
  generalize hA : bool9 S8 = A at *
  obtain ⟨z8, S9⟩ := A
  have E8 : Hid (bool9 S8 = (z8, S9)) := hA
  clear hA
  dsimp only at h9
  have c8 := box_cell h9.box 8
  have fb := frozen9 h9.box
  have hlb := box_lt h9.box
  go_upto_region 6 with fail
  have hq9 : RdX w0 w _ rb S9 53 #[.int .i64 z0, .int .i64 z1, .int .i64 z2, .int .i64 z3, .int .i64 z4, .int .i64 z5, .int .i64 z6, .int .i64 z7, .bool z8, .int .i64 0, .slice none 0 0, .int .i64 0, .int .i64 0, .slice none 0 0, .slice none 0 0, .slice none 0 0] #[.int .i64 0, .int .i64 0, .int .i64 0, .int .i64 0, .int .i64 0, .int .i64 0, .int .i64 0, .int .i64 0, .bool false, .int .i64 0, .slice none 0 0, .int .i64 0, .int .i64 0, .slice none 0 0, .slice none 0 0, .slice none 0 0] := (h9.put 8 (.bool z8) (by show 8 < 16; omega))
  clear h9 c8 fb hlb
  generalize (y8.setCell ⟨w.heap.size + 1, 8, none⟩ (.bool z8)) = Xhq9 at *
  have h9 := hq9
  clear hq9
  have ki9 := h9.r.int
  have HI9 : Hid (inI (int9 S9).1) := int9_in _
  go_wp2_with fail
  refine ki9.mono ?_
  rintro _ y9 ⟨rfl, hl9⟩
  have h10 := h9.left hl9
  clear h9 ki9 hl9
  generalize hA : int9 S9 = A at *
  obtain ⟨z9, S10⟩ := A
  have E9 : Hid (int9 S9 = (z9, S10)) := hA
  clear hA
  dsimp only at h10 HI9
  have c9 := box_cell h10.box 9
  have fb := frozen9 h10.box
  have hlb := box_lt h10.box
  go_upto_region 7 with fail
  have hq10 : RdX w0 w _ rb S10 53 #[.int .i64 z0, .int .i64 z1, .int .i64 z2, .int .i64 z3, .int .i64 z4, .int .i64 z5, .int .i64 z6, .int .i64 z7, .bool z8, .int .i64 z9, .slice none 0 0, .int .i64 0, .int .i64 0, .slice none 0 0, .slice none 0 0, .slice none 0 0] #[.int .i64 0, .int .i64 0, .int .i64 0, .int .i64 0, .int .i64 0, .int .i64 0, .int .i64 0, .int .i64 0, .bool false, .int .i64 0, .slice none 0 0, .int .i64 0, .int .i64 0, .slice none 0 0, .slice none 0 0, .slice none 0 0] := (h10.put 9 (.int .i64 z9) (by show 9 < 16; omega))
  clear h10 c9 fb hlb
  generalize (y9.setCell ⟨w.heap.size + 1, 9, none⟩ (.int .i64 z9)) = Xhq10 at *
  have h10 := hq10
  clear hq10
  replace HC : Hid (R = mtail10 z0 z1 z2 z3 z4 z5 z6 z7 z8 z9 S10) := HC.out.symm.trans (pmsg10_is E0.out E1.out E2.out E3.out E4.out E5.out E6.out E7.out E8.out E9.out)
  clear E0 E1 E2 E3 E4 E5 E6 E7 E8 E9
  have c0 := box_cell h10.box 0
  have hlb := box_lt h10.box
  have hws := h10.g.size
  have hb10 := box_lt h10.box
  have e5 : z0 ≠ 5 := HK.out.1
  have e7 : z0 ≠ 7 := HK.out.2
  clear HK
  have e5' : (z0 == 5) = false := by simpa using e5
  have e7' : (z0 == 7) = false := by simpa using e7
  have HT : Hid (R = (⟨z0, z1, z2, z3, z4, z5, z6, z7, z8, z9, [], noS10⟩, S10)) := by
    rw [Hid, HC.out, mtail10_else _ _ _ _ _ _ _ _ _ _ _ e5 e7]
  clear HC e5 e7 c0 hlb
  have hx := h10
  have c0 := box_cell hx.box 0
  have hlb := box_lt hx.box
  go_upto_region 12 with fail
  have hM : OwnsM Xhq10 (w.heap.size + 1) ⟨z0, z1, z2, z3, z4, z5, z6, z7, z8, z9, nilS10, [], noSV⟩ := ⟨HI0.out, HI1.out, HI2.out, HI3.out, HI4.out, HI5.out, HI6.out, HI7.out, HI9.out, OwnsEs.nil _ _, Nat.zero_le _, OwnsS.nil _ _⟩
  clear c0 hlb h10
  have c0 := box_cell hx.box 0
  have c1 := box_cell hx.box 1
  have c2 := box_cell hx.box 2
  have c3 := box_cell hx.box 3
  have c4 := box_cell hx.box 4
  have c5 := box_cell hx.box 5
  have c6 := box_cell hx.box 6
  have c7 := box_cell hx.box 7
  have c8 := box_cell hx.box 8
  have c9 := box_cell hx.box 9
  have c10 := box_cell hx.box 10
  have c11 := box_cell hx.box 11
  have c12 := box_cell hx.box 12
  have c13 := box_cell hx.box 13
  have c14 := box_cell hx.box 14
  have c15 := box_cell hx.box 15
  have d0 := box_cell hx.res 0
  have d1 := box_cell hx.res 1
  have d2 := box_cell hx.res 2
  have d3 := box_cell hx.res 3
  have d4 := box_cell hx.res 4
  have d5 := box_cell hx.res 5
  have d6 := box_cell hx.res 6
  have d7 := box_cell hx.res 7
  have d8 := box_cell hx.res 8
  have d9 := box_cell hx.res 9
  have d10 := box_cell hx.res 10
  have d11 := box_cell hx.res 11
  have d12 := box_cell hx.res 12
  have d13 := box_cell hx.res 13
  have d14 := box_cell hx.res 14
  have d15 := box_cell hx.res 15
  have fb := frozen9 hx.res
  have hlb := box_lt hx.box
  have hlr := box_lt hx.res
  go_wp2
  have hF := fillM (b := w.heap.size) (x0 := noMV) hx.res z0 z1 z2 z3 z4 z5 z6 z7 z8 z9 none 0 0 0 0 none 0 0 none 0 0 none 0 0 noF10 [] []
  have hR9 := ((((((((((((((((((((((((((((((((hx.r).cell (b := w.heap.size) (by omega) (by omega) 0 (.int .i64 z0))).cell (b := w.heap.size) (by omega) (by omega) 1 (.int .i64 z1))).cell (b := w.heap.size) (by omega) (by omega) 2 (.int .i64 z2))).cell (b := w.heap.size) (by omega) (by omega) 3 (.int .i64 z3))).cell (b := w.heap.size) (by omega) (by omega) 4 (.int .i64 z4))).cell (b := w.heap.size) (by omega) (by omega) 5 (.int .i64 z5))).cell (b := w.heap.size) (by omega) (by omega) 6 (.int .i64 z6))).cell (b := w.heap.size) (by omega) (by omega) 7 (.int .i64 z7))).cell (b := w.heap.size) (by omega) (by omega) 8 (.bool z8))).cell (b := w.heap.size) (by omega) (by omega) 9 (.int .i64 z9))).cell (b := w.heap.size) (by omega) (by omega) 10 (.slice none 0 0))).cell (b := w.heap.size) (by omega) (by omega) 11 (.int .i64 0))).cell (b := w.heap.size) (by omega) (by omega) 12 (.int .i64 0))).cell (b := w.heap.size) (by omega) (by omega) 13 (.slice none 0 0))).cell (b := w.heap.size) (by omega) (by omega) 14 (.slice none 0 0))).cell (b := w.heap.size) (by omega) (by omega) 15 (.slice none 0 0))
  have hG9 := (grown_new (b := w.heap.size) (grown_new (b := w.heap.size) (grown_new (b := w.heap.size) (grown_new (b := w.heap.size) (grown_new (b := w.heap.size) (grown_new (b := w.heap.size) (grown_new (b := w.heap.size) (grown_new (b := w.heap.size) (grown_new (b := w.heap.size) (grown_new (b := w.heap.size) (grown_new (b := w.heap.size) (grown_new (b := w.heap.size) (grown_new (b := w.heap.size) (grown_new (b := w.heap.size) (grown_new (b := w.heap.size) (grown_new (b := w.heap.size) hx.g (by omega) 0 (.int .i64 z0)) (by omega) 1 (.int .i64 z1)) (by omega) 2 (.int .i64 z2)) (by omega) 3 (.int .i64 z3)) (by omega) 4 (.int .i64 z4)) (by omega) 5 (.int .i64 z5)) (by omega) 6 (.int .i64 z6)) (by omega) 7 (.int .i64 z7)) (by omega) 8 (.bool z8)) (by omega) 9 (.int .i64 z9)) (by omega) 10 (.slice none 0 0)) (by omega) 11 (.int .i64 0)) (by omega) 12 (.int .i64 0)) (by omega) 13 (.slice none 0 0)) (by omega) 14 (.slice none 0 0)) (by omega) 15 (.slice none 0 0))
  have hO9 := ((((((((((((((((((((((((((((((((hM).cell (b := w.heap.size) (by omega) 0 (.int .i64 z0))).cell (b := w.heap.size) (by omega) 1 (.int .i64 z1))).cell (b := w.heap.size) (by omega) 2 (.int .i64 z2))).cell (b := w.heap.size) (by omega) 3 (.int .i64 z3))).cell (b := w.heap.size) (by omega) 4 (.int .i64 z4))).cell (b := w.heap.size) (by omega) 5 (.int .i64 z5))).cell (b := w.heap.size) (by omega) 6 (.int .i64 z6))).cell (b := w.heap.size) (by omega) 7 (.int .i64 z7))).cell (b := w.heap.size) (by omega) 8 (.bool z8))).cell (b := w.heap.size) (by omega) 9 (.int .i64 z9))).cell (b := w.heap.size) (by omega) 10 (.slice none 0 0))).cell (b := w.heap.size) (by omega) 11 (.int .i64 0))).cell (b := w.heap.size) (by omega) 12 (.int .i64 0))).cell (b := w.heap.size) (by omega) 13 (.slice none 0 0))).cell (b := w.heap.size) (by omega) 14 (.slice none 0 0))).cell (b := w.heap.size) (by omega) 15 (.slice none 0 0))
  
  refine bodyPost_ret (ret_one rfl _ _ w.heap.size _ _ _ _ rfl hF Tryz.underlying53 rfl (by kernel_rfl)) rfl ⟨⟨z0, z1, z2, z3, z4, z5, z6, z7, z8, z9, nilS10, [], noSV⟩, rfl, ?_, hO9.mono (by omega), ?_, hG9⟩
  · rw [HT.out]; rfl
  · rw [HT.out]; exact hR9

theorem msgR_any (w0 w : World) (rb : Nat) (S0 : St) (h : Rdr w0 w rb S0) :
    Calls Tryz.prog 45 #[.pointer (some ⟨rb, 0, none⟩)] w fun e w' => ∃ X : MsgV, e = .returned (.agg X.arr) ∧ X.m = (pmsg10 S0).1 ∧ OwnsM w' w.heap.size X ∧ Left10 w0 w rb (pmsg10 S0).2 w' := by
  by_cases h5 : (int9 S0).1 = 5
  · exact msgR_app w0 w rb S0 h h5
  by_cases h7 : (int9 S0).1 = 7
  · exact msgR_snap w0 w rb S0 h h7
  exact msgR_else w0 w rb S0 h ⟨h5, h7⟩
end Go.Proofs.YtnbaoimjcaeeaaaGreat
