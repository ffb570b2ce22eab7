import Derived.Test.YtnbaoimjcaeeaaaGreatEn3To
import Derived.Test.YtnbaoimjcaeeaaaGreatCmDTo
/-
  Contracts: what lives and weight of the statements of stage 10 tell.
-/
namespace Go.Proofs.YtnbaoimjcaeeaaaGreat
open Go.RowKit Go.Shelf

def oneE10 : EntV := ⟨1, 1, 1, zeroC9, noFV⟩
theorem fits_zeroC : Fits9 zeroC9 := ⟨by decide, by decide, by decide, by decide, ⟨by decide, by decide⟩, ⟨by decide, by decide⟩, ⟨by decide, by decide⟩, ⟨by decide, by decide⟩⟩
theorem oneE_fits (W : World) : FitsE W oneE10 := ⟨⟨by decide, by decide⟩, ⟨by decide, by decide⟩, ⟨by decide, by decide⟩, fits_zeroC, FitsF.nil W⟩
theorem oneE_good : goodE10 oneE10.e = true := by decide +kernel
theorem oneE_bytes : entB oneE10.e = [2, 2, 2] := by decide +kernel

set_option maxRecDepth 100000 in
set_option maxHeartbeats 2000000 in
theorem lives10_any (w : World) : Calls Tryz.prog 5 #[] w fun e w' => e = .returned (.bool true) ∧ Below w.heap.size w w' := by
  have k1 := fun W => goodE_any oneE10 W (oneE_fits W)
  have k2 := fun W => bytesE_any W oneE10 (FitsF.nil W) ⟨by decide, by decide⟩ ⟨by decide, by decide, by decide, by decide⟩
  have k3 := fun W => goodConf_any noFV W (FitsF.nil W)
  have k4 := fun (W : World) => goodConf_any ⟨⟨some ⟨W.heap.size, 0, none⟩, 2, 2⟩, nilS10, ⟨[1, 3], []⟩⟩ (W.alloc (.cells #[.int .i64 1, .int .i64 3] 3)) ⟨HasI.lit W [1, 3] 3, HasI.nil _, (fun n h => by
    simp only [List.mem_cons, List.not_mem_nil, or_false] at h
    rcases h with rfl | rfl <;> exact ⟨by decide, by decide⟩), (fun _ h => by cases h), Nat.le_of_ble_eq_true rfl, Nat.le_of_ble_eq_true rfl⟩
  dsimp only at k4
  rw [oneE_good] at k1
  rw [oneE_bytes] at k2
  rw [show goodF10 noFV.f = false by decide +kernel] at k3
  rw [show goodF10 ⟨[1, 3], []⟩ = true by decide +kernel] at k4
  have hbox : EntAt (w.alloc (.cells oneE10.arr 30)) w.heap.size oneE10 := heap_alloc_new w _
  have hb1 : Below w.heap.size w (w.alloc (.cells oneE10.arr 30)) := (Below.refl _ _).alloc (Nat.le_refl _) _
  have hbz := hb1.size
  unfold oneE10 noFV zeroC9 nilS10 at *
  unfold EntV.arr ConfV.arr at *
  dsimp only at *
  go_enter Tryz.func5, Tryz.ntmps5
  go_wp2_with fail
  refine (k1 _).mono ?_
  rintro e w2 ⟨rfl, hb2⟩
  have hbox2 := box_below hbox hb2
  have hB2 := hb1.trans (hb2.mono hbz)
  have e2 : EntAt w2 w.heap.size ⟨1, 1, 1, ⟨0, 0, 0, em9, em9, em9, em9, 0⟩, ⟨⟨none, 0, 0⟩, ⟨none, 0, 0⟩, noF10⟩⟩ := hbox2
  obtain ⟨c0, c1, c2, c3, c4, c5, c6, c7, c8, c9, c10, c11, c12⟩ := e2.cells
  dsimp only at c0 c1 c2 c3 c4 c5 c6 c7 c8 c9 c10 c11 c12
  have hlt := box_lt hbox2
  clear k1 hbox hb2 hbox2 e2
  go_wp2_with fail
  refine (k2 _).mono ?_
  rintro e w3 ⟨v3, rfl, ho3, hb3⟩
  have hB3 := hB2.trans (hb3.mono hB2.size)
  obtain ⟨p3, q3, rfl, -, -, -⟩ := id ho3.has
  have h3 := ho3.has.below ((Below.refl w3.heap.size w3).alloc (Nat.le_refl _) (.cells #[.int .u8 2, .int .u8 2, .int .u8 2] 5)) (Nat.le_refl _)
  have hl3 : Has (w3.alloc (.cells #[.int .u8 2, .int .u8 2, .int .u8 2] 5)) (.slice (some ⟨w3.heap.size, 0, none⟩) 3 3) [2, 2, 2] := Has.lit w3 [2, 2, 2] 5
  have hB4 : Below w.heap.size w (w3.alloc (.cells #[.int .u8 2, .int .u8 2, .int .u8 2] 5)) := hB3.trans (((Below.refl w3.heap.size w3).alloc (Nat.le_refl _) _).mono hB3.size)
  have k5 := same_any _ _ _ _ _ h3 hl3 (by intro x hx; simp only [List.mem_cons, List.not_mem_nil, or_false] at hx; omega) (by intro x hx; simp only [List.mem_cons, List.not_mem_nil, or_false] at hx; omega)
  rw [beq_self_eq_true] at k5
  clear k2 c0 c1 c2 c3 c4 c5 c6 c7 c8 c9 c10 c11 c12 hb3 ho3 h3 hl3
  go_wp2_with fail
  generalize w3.alloc (.cells #[.int .u8 2, .int .u8 2, .int .u8 2] 5) = w4 at *
  refine same_mono k5 ?_
  go_wp2_with fail
  refine (k3 _).mono ?_
  rintro e w5 ⟨rfl, hb5⟩
  have hB5 := hB4.trans (hb5.mono hB4.size)
  have k6 := k4 w5
  have hB6 : Below w.heap.size w (w5.alloc (.cells #[.int .i64 1, .int .i64 3] 3)) := hB5.trans (((Below.refl w5.heap.size w5).alloc (Nat.le_refl _) _).mono hB5.size)
  clear k3 k4 k5 hb5
  go_wp2_with fail
  generalize w5.alloc (.cells #[.int .i64 1, .int .i64 3] 3) = w6 at *
  refine k6.mono ?_
  rintro e w7 ⟨rfl, hb7⟩
  go_wp2
  go_ret
  exact ⟨rfl, hB6.trans (hb7.mono hB6.size)⟩

/-- How much an entry has. -/
def weightE (x : Ent10) : Nat := 1 + (x.c.key.size + x.c.old.size + x.c.val.size + x.c.unt.size) / 20 + x.f.vs.length + x.f.ls.length
theorem weight_few {x : Ent10} {n : Nat} (h : weightE x ≤ n) (hn : n ≤ 400) : FewF x.f ∧ FewC x.c := by
  unfold weightE at h
  exact ⟨⟨by omega, by omega⟩, ⟨by omega, by omega, by omega, by omega⟩⟩

set_option maxRecDepth 100000 in
set_option maxHeartbeats 2000000 in
theorem weight_any (x : EntV) (w : World) (h : FitsE w x) : Calls Tryz.prog 43 #[.agg x.arr] w fun e w' => e = .returned (.int .i64 (weightE x.e : Nat)) ∧ Below w.heap.size w w' := by
  have hb1 : Below w.heap.size w (w.alloc (.cells x.arr 30)) := (Below.refl _ _).alloc (Nat.le_refl _) _
  have hbz := hb1.size
  obtain ⟨s1, s2, s3, s4, -⟩ := h.c
  have hn := h.f.u.len.1
  have hm := h.f.v.len.1
  have l1 := h.f.lu
  have l2 := h.f.lv
  obtain ⟨W, HW⟩ : ∃ W : Nat, Hid (weightE x.e = W) := ⟨_, rfl⟩
  have HQ : ∃ q : Nat, ((x.c.key.size : Int) + (x.c.old.size : Int) + (x.c.val.size : Int) + (x.c.unt.size : Int)).tdiv 20 = (q : Int) ∧ q ≤ 1125899906842624 ∧ Hid (W = 1 + q + x.f.u.n + x.f.v.n) := by
    refine ⟨(x.c.key.size + x.c.old.size + x.c.val.size + x.c.unt.size) / 20, ?_, by omega, ?_⟩
    · rw [Int.tdiv_eq_ediv_of_nonneg (by omega)]
      omega
    · rw [Hid, ← HW.out, ← hn, ← hm]
      rfl
  obtain ⟨q, hq, hq2, HE⟩ := HQ
  rw [hn] at l1
  rw [hm] at l2
  rw [HW.out]
  clear HW h hn hm
  have hb2 : ∀ o : Obj, Below w.heap.size w ((w.alloc (.cells x.arr 30)).alloc o) := fun o => hb1.trans (((Below.refl _ _).alloc (Nat.le_refl _) o).mono hbz)
  obtain ⟨i, t, k, ⟨ck, cs, cq, ckey, cold, cval, cunt, clim⟩, ⟨⟨p, n, c⟩, ⟨q', m, d⟩, f⟩⟩ := x
  unfold EntV.arr at *
  dsimp only at *
  go_enter Tryz.func43, Tryz.ntmps43
  go_wp2
  go_ret
  refine ⟨ret_int ?_, hb2 _⟩
  rw [HE.out]
  omega
end Go.Proofs.YtnbaoimjcaeeaaaGreat

/-
  Contracts: what reads of entry tell: hard, entry.
-/
namespace Go.Proofs.YtnbaoimjcaeeaaaGreat
open Go.RowKit Go.Shelf

/-- A reader, a box that is being filled, and the result's: they were made in this order behind w. -/
structure RdX (w0 w wc : World) (rb : Nat) (S : St) (T : TypeId) (a z : Array Value) : Prop where
  r : Rdr w0 wc rb S
  box : wc.heap[w.heap.size + 1]? = some (.cells a T (0, 0))
  res : wc.heap[w.heap.size]? = some (.cells z T (0, 0))
  g : w.grownBy wc (some rb)
  lt : rb < w.heap.size
  le : w0.heap.size ≤ rb
theorem RdX.new {w0 w : World} {rb : Nat} {S : St} (h : Rdr w0 w rb S) (T : TypeId) (z : Array Value) : RdX w0 w ((w.alloc (.cells z T)).alloc (.cells z T)) rb S T z z := by
  have hb1 : Below w.heap.size w (w.alloc (.cells z T)) := (Below.refl _ _).alloc (Nat.le_refl _) _
  have hz1 : (w.alloc (.cells z T)).heap.size = w.heap.size + 1 := by simp
  have hb2 := (Below.refl _ (w.alloc (.cells z T))).alloc (Nat.le_refl _) (.cells z T)
  have hn := heap_alloc_new (w.alloc (.cells z T)) (.cells z T)
  rw [hz1] at hn
  exact ⟨(h.more hb1).more hb2, hn, box_below (heap_alloc_new w _) hb2, grown_after hb1 (below_grownBy hb2), h.lt.2, h.lt.1⟩
theorem RdX.left {w0 w wc wd : World} {rb : Nat} {S S' : St} {T : TypeId} {a z : Array Value} (h : RdX w0 w wc rb S T a z) (hl : Left10 w0 wc rb S' wd) : RdX w0 w wd rb S' T a z := by
  have := h.lt
  exact ⟨hl.1, grown_box hl.2 h.box (by omega), grown_box hl.2 h.res (by omega), grown_trans h.g hl.2, h.lt, h.le⟩
theorem RdX.put {w0 w wc : World} {rb : Nat} {S : St} {T : TypeId} {a z : Array Value} (h : RdX w0 w wc rb S T a z) (i : Nat) (v : Value) (hi : i < a.size) : RdX w0 w (wc.setCell ⟨w.heap.size + 1, i, none⟩ v) rb S T (a.set i v hi) z := by
  have h1 := h.lt
  have h2 := h.le
  refine ⟨h.r.cell (by omega) (by omega) i v, set_block9 h.box i v hi, ?_, grown_new h.g (by omega) i v, h.lt, h.le⟩
  exact grown_box (grown_set wc (w.heap.size + 1) i v) h.res (by omega)
theorem RdX.more {w0 w wc wd : World} {rb : Nat} {S : St} {T : TypeId} {a z : Array Value} (h : RdX w0 w wc rb S T a z) (hb : Below wc.heap.size wc wd) : RdX w0 w wd rb S T a z :=
  ⟨h.r.more hb, box_below h.box hb, box_below h.res hb, grown_trans h.g (below_grownBy hb), h.lt, h.le⟩
theorem ptail10_cmd (i t : Int) (S : St) : ptail10 i t 2 S = (⟨i, t, 2, (readC9 (byt10 S).1).1, noF10⟩, (byt10 S).2) := by
  unfold ptail10 bindR retR
  rw [if_pos rfl]
theorem ptail10_conf (i t : Int) (S : St) : ptail10 i t 3 S = (⟨i, t, 3, zeroC9, (conf10 9 S).1⟩, (conf10 9 S).2) := by
  unfold ptail10 bindR retR
  rw [if_neg (by decide), if_pos rfl]
theorem ptail10_else (i t k : Int) (S : St) (h2 : k ≠ 2) (h3 : k ≠ 3) : ptail10 i t k S = (⟨i, t, k, zeroC9, noF10⟩, S) := by
  unfold ptail10 bindR retR
  rw [if_neg h2, if_neg h3]
theorem bindR_def {α β : Type} (f : St → α × St) (g : α → St → β × St) (s : St) : bindR f g s = g (f s).1 (f s).2 := rfl
theorem pent10_is (S : St) : pent10 S = ptail10 (int9 S).1 (int9 (int9 S).2).1 (int9 (int9 (int9 S).2).2).1 (int9 (int9 (int9 S).2).2).2 := by
  unfold pent10
  rw [bindR_def, bindR_def, bindR_def]
theorem hard10_is (S : St) : hard10 S = (⟨(int9 S).1, (int9 (int9 S).2).1, (int9 (int9 (int9 S).2).2).1⟩, (int9 (int9 (int9 S).2).2).2) := by
  unfold hard10
  rfl


set_option maxRecDepth 100000 in
set_option maxHeartbeats 2000000 in
theorem hardR_any (w0 w : World) (rb : Nat) (S : St) (h : Rdr w0 w rb S) :
    Calls Tryz.prog 33 #[.pointer (some ⟨rb, 0, none⟩)] w fun e w' => e = .returned (.agg (hard10 S).1.arr) ∧ Left10 w0 w rb (hard10 S).2 w' := by
  have hmf : ∀ (fn : Fn) (first cap : Array Value) (w : World), (Instr.makeFunc fn first cap).run Tryz.prog w = .ok (.func fn first cap) w := fun _ _ _ _ => rfl
  have h0 : RdX w0 w _ rb S 37 #[.int .i64 0, .int .i64 0, .int .i64 0] #[.int .i64 0, .int .i64 0, .int .i64 0] := RdX.new h 37 #[.int .i64 0, .int .i64 0, .int .i64 0]
  have HC : Hid (hard10 S = (⟨(int9 S).1, (int9 (int9 S).2).1, (int9 (int9 (int9 S).2).2).1⟩, (int9 (int9 (int9 S).2).2).2)) := hard10_is S
  generalize hard10 S = R at *
  have hrl := h.lt
  clear h
  revert h0 HC
  generalize S = S0
  intro h0 HC
  go_enter Tryz.func33, Tryz.ntmps33
  have ki0 := h0.r.int
  go_wp2_with fail
  refine ki0.mono ?_
  rintro _ y0 ⟨rfl, hl0⟩
  have h1 := h0.left hl0
  clear h0 ki0 hl0
  generalize int9 S0 = A at *
  obtain ⟨z0, S1⟩ := A
  dsimp only at h1 HC
  have ki1 := h1.r.int
  go_wp2_with fail
  refine ki1.mono ?_
  rintro _ y1 ⟨rfl, hl1⟩
  have h2 := h1.left hl1
  clear h1 ki1 hl1
  generalize int9 S1 = A at *
  obtain ⟨z1, S2⟩ := A
  dsimp only at h2 HC
  have ki2 := h2.r.int
  go_wp2_with fail
  refine ki2.mono ?_
  rintro _ y2 ⟨rfl, hl2⟩
  have h3 := h2.left hl2
  clear h2 ki2 hl2
  generalize int9 S2 = A at *
  obtain ⟨z2, S3⟩ := A
  dsimp only at h3 HC

  have c0 := box_cell h3.box 0
  have c1 := box_cell h3.box 1
  have c2 := box_cell h3.box 2
  have fb := frozen9 h3.box
  have hlb := box_lt h3.box
  go_upto_region 4 with fail
  have h4 : RdX w0 w _ rb S3 37 #[.int .i64 z0, .int .i64 z1, .int .i64 z2] #[.int .i64 0, .int .i64 0, .int .i64 0] := ((h3.put 0 (.int .i64 z0) (by show 0 < 3; omega)).put 1 (.int .i64 z1) (by show 1 < 3; omega)).put 2 (.int .i64 z2) (by show 2 < 3; omega)
  clear h3 c0 c1 c2 fb hlb
  generalize ((y2.setCell ⟨w.heap.size + 1, 0, none⟩ (.int .i64 z0)).setCell ⟨w.heap.size + 1, 1, none⟩ (.int .i64 z1)).setCell ⟨w.heap.size + 1, 2, none⟩ (.int .i64 z2) = X4 at *
  have c0 := box_cell h4.box 0
  have c1 := box_cell h4.box 1
  have c2 := box_cell h4.box 2
  have d0 := box_cell h4.res 0
  have d1 := box_cell h4.res 1
  have d2 := box_cell h4.res 2
  have fb := frozen9 h4.res
  have hlb := box_lt h4.box
  have hlr := box_lt h4.res
  go_wp2
  have hF := fillH (b := w.heap.size) (x0 := ⟨0, 0, 0⟩) h4.res z0 z1 z2
  have hR9 := ((((((h4.r).cell (b := w.heap.size) (by omega) (by omega) 0 (.int .i64 z0))).cell (b := w.heap.size) (by omega) (by omega) 1 (.int .i64 z1))).cell (b := w.heap.size) (by omega) (by omega) 2 (.int .i64 z2))
  have hG9 := (grown_new (b := w.heap.size) (grown_new (b := w.heap.size) (grown_new (b := w.heap.size) h4.g (by omega) 0 (.int .i64 z0)) (by omega) 1 (.int .i64 z1)) (by omega) 2 (.int .i64 z2))
  refine bodyPost_ret (ret_one rfl _ _ w.heap.size _ _ _ _ rfl hF Tryz.underlying37 rfl (by kernel_rfl)) rfl ⟨?_, ?_, hG9⟩
  · rw [HC.out]
  · rw [HC.out]; exact hR9

theorem strOf_size (l : List Int) : (strOfNums l).size = l.length := by
  show (strOfNums l).data.size = l.length
  rw [← Array.length_toList, strOfNums_data, List.length_map]
theorem txt9_size (S : St) : (txt9 S).1.size ≤ S.1.length := by
  unfold txt9
  dsimp only
  rw [strOf_size]
  exact (getTextS_bd S.1).2
theorem txt9_len (S : St) : (txt9 S).2.1.length ≤ S.1.length := loseS_length _ _ _
theorem int9_len (S : St) : (int9 S).2.1.length ≤ S.1.length := loseS_length _ _ _
theorem readC9_fits (xs : List Int) (h : xs.length ≤ 140737488351232) : Fits9 (readC9 xs).1 := by
  unfold readC9
  split
  · unfold rdC9
    dsimp only
    have a0 := int9_len (xs, false)
    have a1 := int9_len (int9 (xs, false)).2
    have a2 := int9_len (int9 (int9 (xs, false)).2).2
    have a3 := int9_len (int9 (int9 (int9 (xs, false)).2).2).2
    have b0 := txt9_size (int9 (int9 (int9 (int9 (xs, false)).2).2).2).2
    have a4 := txt9_len (int9 (int9 (int9 (int9 (xs, false)).2).2).2).2
    have b1 := txt9_size (txt9 (int9 (int9 (int9 (int9 (xs, false)).2).2).2).2).2
    have a5 := txt9_len (txt9 (int9 (int9 (int9 (int9 (xs, false)).2).2).2).2).2
    have b2 := txt9_size (txt9 (txt9 (int9 (int9 (int9 (int9 (xs, false)).2).2).2).2).2).2
    have a6 := txt9_len (txt9 (txt9 (int9 (int9 (int9 (int9 (xs, false)).2).2).2).2).2).2
    have b3 := txt9_size (txt9 (txt9 (txt9 (int9 (int9 (int9 (int9 (xs, false)).2).2).2).2).2).2).2
    dsimp only at a0
    exact ⟨by dsimp only; omega, by dsimp only; omega, by dsimp only; omega, by dsimp only; omega, int9_in _, int9_in _, int9_in _, int9_in _⟩
  · exact fits_zeroC

set_option maxRecDepth 100000 in
set_option maxHeartbeats 4000000 in
theorem entryR_any (w0 w : World) (rb : Nat) (S : St) (h : Rdr w0 w rb S) :
    Calls Tryz.prog 28 #[.pointer (some ⟨rb, 0, none⟩)] w fun e w' => ∃ X : EntV, e = .returned (.agg X.arr) ∧ X.e = (pent10 S).1 ∧ OwnsF w' w.heap.size X.f ∧ Fits9 X.c ∧ Left10 w0 w rb (pent10 S).2 w' := by
  have hmf : ∀ (fn : Fn) (first cap : Array Value) (w : World), (Instr.makeFunc fn first cap).run Tryz.prog w = .ok (.func fn first cap) w := fun _ _ _ _ => rfl
  have h0 : RdX w0 w _ rb S 30 #[.int .i64 0, .int .i64 0, .int .i64 0, .int .i64 0, .int .i64 0, .int .i64 0, .string em9, .string em9, .string em9, .string em9, .int .i64 0, .slice none 0 0, .slice none 0 0] #[.int .i64 0, .int .i64 0, .int .i64 0, .int .i64 0, .int .i64 0, .int .i64 0, .string em9, .string em9, .string em9, .string em9, .int .i64 0, .slice none 0 0, .slice none 0 0] := RdX.new h 30 #[.int .i64 0, .int .i64 0, .int .i64 0, .int .i64 0, .int .i64 0, .int .i64 0, .string em9, .string em9, .string em9, .string em9, .int .i64 0, .slice none 0 0, .slice none 0 0]
  have HC : Hid (pent10 S = ptail10 (int9 S).1 (int9 (int9 S).2).1 (int9 (int9 (int9 S).2).2).1 (int9 (int9 (int9 S).2).2).2) := pent10_is S
  generalize pent10 S = R at *
  have hrl := h.lt
  clear h
  revert h0 HC
  generalize S = S0
  intro h0 HC
  go_enter Tryz.func28, Tryz.ntmps28
  have ki0 := h0.r.int
  go_wp2_with fail
  refine ki0.mono ?_
  rintro _ y0 ⟨rfl, hl0⟩
  have h1 := h0.left hl0
  clear h0 ki0 hl0
  generalize int9 S0 = A at *
  obtain ⟨z0, S1⟩ := A
  dsimp only at h1 HC
  have ki1 := h1.r.int
  go_wp2_with fail
  refine ki1.mono ?_
  rintro _ y1 ⟨rfl, hl1⟩
  have h2 := h1.left hl1
  clear h1 ki1 hl1
  generalize int9 S1 = A at *
  obtain ⟨z1, S2⟩ := A
  dsimp only at h2 HC
  have ki2 := h2.r.int
  go_wp2_with fail
  refine ki2.mono ?_
  rintro _ y2 ⟨rfl, hl2⟩
  have h3 := h2.left hl2
  clear h2 ki2 hl2
  generalize int9 S2 = A at *
  obtain ⟨z2, S3⟩ := A
  dsimp only at h3 HC

  have c0 := box_cell h3.box 0
  have c1 := box_cell h3.box 1
  have c2 := box_cell h3.box 2
  have fb := frozen9 h3.box
  have hlb := box_lt h3.box
  go_upto_region 4 with fail
  have h4 : RdX w0 w _ rb S3 30 #[.int .i64 z0, .int .i64 z1, .int .i64 z2, .int .i64 0, .int .i64 0, .int .i64 0, .string em9, .string em9, .string em9, .string em9, .int .i64 0, .slice none 0 0, .slice none 0 0] #[.int .i64 0, .int .i64 0, .int .i64 0, .int .i64 0, .int .i64 0, .int .i64 0, .string em9, .string em9, .string em9, .string em9, .int .i64 0, .slice none 0 0, .slice none 0 0] := ((h3.put 0 (.int .i64 z0) (by show 0 < 13; omega)).put 1 (.int .i64 z1) (by show 1 < 13; omega)).put 2 (.int .i64 z2) (by show 2 < 13; omega)
  clear h3 c0 c1 c2 fb hlb
  generalize ((y2.setCell ⟨w.heap.size + 1, 0, none⟩ (.int .i64 z0)).setCell ⟨w.heap.size + 1, 1, none⟩ (.int .i64 z1)).setCell ⟨w.heap.size + 1, 2, none⟩ (.int .i64 z2) = X4 at *
  have c2 := box_cell h4.box 2
  have hlb := box_lt h4.box
  have hws := h4.g.size
  by_cases e2 : z2 = 2
  · have HT : Hid (R = (⟨z0, z1, 2, (readC9 (byt10 S3).1).1, noF10⟩, (byt10 S3).2)) := by
      rw [Hid, HC.out, e2, ptail10_cmd]
    have kc := cmdR_any w0 X4 rb S3 h4.r
    have HFit : Hid (Fits9 (readC9 (byt10 S3).1).1) := readC9_fits _ (by have := byt10_len S3; have := h4.r.len; omega)
    generalize byt10 S3 = A at *
    obtain ⟨xs, S4⟩ := A
    dsimp only at kc HT HFit
    generalize (readC9 xs).1 = cc at *
    obtain ⟨ck, cs, cq, ckey, cold, cval, cunt, clim⟩ := cc
    subst e2
    unfold Cmd9.arr at kc
    dsimp only at kc
    clear HC
    go_wp2_with fail
    refine kc.mono ?_
    rintro _ y5 ⟨rfl, hl5⟩
    have h5 := h4.left hl5
    clear kc h4 hl5 c2 hlb
    have c3 := box_cell h5.box 3
    have c4 := box_cell h5.box 4
    have c5 := box_cell h5.box 5
    have c6 := box_cell h5.box 6
    have c7 := box_cell h5.box 7
    have c8 := box_cell h5.box 8
    have c9 := box_cell h5.box 9
    have c10 := box_cell h5.box 10
    have fb := frozen9 h5.box
    have hlb := box_lt h5.box
    go_upto_region 9 with fail
    have hx : RdX w0 w _ rb S4 30 #[.int .i64 z0, .int .i64 z1, .int .i64 2, .int .i64 ck, .int .i64 cs, .int .i64 cq, .string ckey, .string cold, .string cval, .string cunt, .int .i64 clim, .slice none 0 0, .slice none 0 0] #[.int .i64 0, .int .i64 0, .int .i64 0, .int .i64 0, .int .i64 0, .int .i64 0, .string em9, .string em9, .string em9, .string em9, .int .i64 0, .slice none 0 0, .slice none 0 0] := (((((((h5.put 3 (.int .i64 ck) (by show 3 < 13; omega)).put 4 (.int .i64 cs) (by show 4 < 13; omega)).put 5 (.int .i64 cq) (by show 5 < 13; omega)).put 6 (.string ckey) (by show 6 < 13; omega)).put 7 (.string cold) (by show 7 < 13; omega)).put 8 (.string cval) (by show 8 < 13; omega)).put 9 (.string cunt) (by show 9 < 13; omega)).put 10 (.int .i64 clim) (by show 10 < 13; omega)
    clear h5 c3 c4 c5 c6 c7 c8 c9 c10 fb hlb
    generalize (((((((y5.setCell ⟨w.heap.size + 1, 3, none⟩ (.int .i64 ck)).setCell ⟨w.heap.size + 1, 4, none⟩ (.int .i64 cs)).setCell ⟨w.heap.size + 1, 5, none⟩ (.int .i64 cq)).setCell ⟨w.heap.size + 1, 6, none⟩ (.string ckey)).setCell ⟨w.heap.size + 1, 7, none⟩ (.string cold)).setCell ⟨w.heap.size + 1, 8, none⟩ (.string cval)).setCell ⟨w.heap.size + 1, 9, none⟩ (.string cunt)).setCell ⟨w.heap.size + 1, 10, none⟩ (.int .i64 clim) = X6 at *
    have hO := OwnsF.nil X6 (w.heap.size + 1)
    have c0 := box_cell hx.box 0
    have c1 := box_cell hx.box 1
    have c2 := box_cell hx.box 2
    have c3 := box_cell hx.box 3
    have c4 := box_cell hx.box 4
    have c5 := box_cell hx.box 5
    have c6 := box_cell hx.box 6
    have c7 := box_cell hx.box 7
    have c8 := box_cell hx.box 8
    have c9 := box_cell hx.box 9
    have c10 := box_cell hx.box 10
    have c11 := box_cell hx.box 11
    have c12 := box_cell hx.box 12
    have d0 := box_cell hx.res 0
    have d1 := box_cell hx.res 1
    have d2 := box_cell hx.res 2
    have d3 := box_cell hx.res 3
    have d4 := box_cell hx.res 4
    have d5 := box_cell hx.res 5
    have d6 := box_cell hx.res 6
    have d7 := box_cell hx.res 7
    have d8 := box_cell hx.res 8
    have d9 := box_cell hx.res 9
    have d10 := box_cell hx.res 10
    have d11 := box_cell hx.res 11
    have d12 := box_cell hx.res 12
    have fb := frozen9 hx.res
    have hlb := box_lt hx.box
    have hlr := box_lt hx.res
    go_wp2
    have hF := fillE (b := w.heap.size) (x0 := noEV) hx.res z0 z1 2 ck cs cq ckey cold cval cunt clim none 0 0 none 0 0 noF10
    have hR9 := ((((((((((((((((((((((((((hx.r).cell (b := w.heap.size) (by omega) (by omega) 0 (.int .i64 z0))).cell (b := w.heap.size) (by omega) (by omega) 1 (.int .i64 z1))).cell (b := w.heap.size) (by omega) (by omega) 2 (.int .i64 2))).cell (b := w.heap.size) (by omega) (by omega) 3 (.int .i64 ck))).cell (b := w.heap.size) (by omega) (by omega) 4 (.int .i64 cs))).cell (b := w.heap.size) (by omega) (by omega) 5 (.int .i64 cq))).cell (b := w.heap.size) (by omega) (by omega) 6 (.string ckey))).cell (b := w.heap.size) (by omega) (by omega) 7 (.string cold))).cell (b := w.heap.size) (by omega) (by omega) 8 (.string cval))).cell (b := w.heap.size) (by omega) (by omega) 9 (.string cunt))).cell (b := w.heap.size) (by omega) (by omega) 10 (.int .i64 clim))).cell (b := w.heap.size) (by omega) (by omega) 11 (.slice none 0 0))).cell (b := w.heap.size) (by omega) (by omega) 12 (.slice none 0 0))
    have hG9 := (grown_new (b := w.heap.size) (grown_new (b := w.heap.size) (grown_new (b := w.heap.size) (grown_new (b := w.heap.size) (grown_new (b := w.heap.size) (grown_new (b := w.heap.size) (grown_new (b := w.heap.size) (grown_new (b := w.heap.size) (grown_new (b := w.heap.size) (grown_new (b := w.heap.size) (grown_new (b := w.heap.size) (grown_new (b := w.heap.size) (grown_new (b := w.heap.size) hx.g (by omega) 0 (.int .i64 z0)) (by omega) 1 (.int .i64 z1)) (by omega) 2 (.int .i64 2)) (by omega) 3 (.int .i64 ck)) (by omega) 4 (.int .i64 cs)) (by omega) 5 (.int .i64 cq)) (by omega) 6 (.string ckey)) (by omega) 7 (.string cold)) (by omega) 8 (.string cval)) (by omega) 9 (.string cunt)) (by omega) 10 (.int .i64 clim)) (by omega) 11 (.slice none 0 0)) (by omega) 12 (.slice none 0 0))
    have hO9 := ((((((((((((((((((((((((((hO).cell (b := w.heap.size) (by omega) 0 (.int .i64 z0))).cell (b := w.heap.size) (by omega) 1 (.int .i64 z1))).cell (b := w.heap.size) (by omega) 2 (.int .i64 2))).cell (b := w.heap.size) (by omega) 3 (.int .i64 ck))).cell (b := w.heap.size) (by omega) 4 (.int .i64 cs))).cell (b := w.heap.size) (by omega) 5 (.int .i64 cq))).cell (b := w.heap.size) (by omega) 6 (.string ckey))).cell (b := w.heap.size) (by omega) 7 (.string cold))).cell (b := w.heap.size) (by omega) 8 (.string cval))).cell (b := w.heap.size) (by omega) 9 (.string cunt))).cell (b := w.heap.size) (by omega) 10 (.int .i64 clim))).cell (b := w.heap.size) (by omega) 11 (.slice none 0 0))).cell (b := w.heap.size) (by omega) 12 (.slice none 0 0))
    
    refine bodyPost_ret (ret_one rfl _ _ w.heap.size _ _ _ _ rfl hF Tryz.underlying30 rfl (by kernel_rfl)) rfl ⟨⟨z0, z1, 2, ⟨ck, cs, cq, ckey, cold, cval, cunt, clim⟩, noFV⟩, rfl, ?_, hO9.mono (by omega), HFit.out, ?_, hG9⟩
    · rw [HT.out]; rfl
    · rw [HT.out]; exact hR9
  have e2' : (z2 == 2) = false := by simpa using e2
  by_cases e3 : z2 = 3
  · have HT : Hid (R = (⟨z0, z1, 3, zeroC9, (conf10 9 S3).1⟩, (conf10 9 S3).2)) := by
      rw [Hid, HC.out, e3, ptail10_conf]
    have kc := confR_any w0 X4 rb S3 h4.r
    generalize conf10 9 S3 = A at *
    obtain ⟨ff, S4⟩ := A
    dsimp only at kc HT
    subst e3
    clear HC e2 e2'
    go_wp2_with fail
    refine kc.mono ?_
    rintro _ y5 ⟨X, rfl, hO5, hXf, hl5⟩
    have h5 := h4.left hl5
    have HXf : Hid (X.f = ff) := hXf
    have hbl4 := box_lt h4.box
    clear kc h4 hl5 c2 hlb hXf
    obtain ⟨⟨p, n, c⟩, ⟨q, m, d⟩, f⟩ := X
    unfold ConfV.arr
    dsimp only
    have c11 := box_cell h5.box 11
    have c12 := box_cell h5.box 12
    have fb := frozen9 h5.box
    have hlb := box_lt h5.box
    go_upto_region 9 with fail
    have hx : RdX w0 w _ rb S4 30 #[.int .i64 z0, .int .i64 z1, .int .i64 3, .int .i64 0, .int .i64 0, .int .i64 0, .string em9, .string em9, .string em9, .string em9, .int .i64 0, .slice p n c, .slice q m d] #[.int .i64 0, .int .i64 0, .int .i64 0, .int .i64 0, .int .i64 0, .int .i64 0, .string em9, .string em9, .string em9, .string em9, .int .i64 0, .slice none 0 0, .slice none 0 0] := (h5.put 11 (.slice p n c) (by show 11 < 13; omega)).put 12 (.slice q m d) (by show 12 < 13; omega)
    have hO := (hO5.cell (b := w.heap.size + 1) (by omega) 11 (.slice p n c)).cell (b := w.heap.size + 1) (by omega) 12 (.slice q m d)
    clear h5 hO5 c11 c12 fb hlb
    generalize (y5.setCell ⟨w.heap.size + 1, 11, none⟩ (.slice p n c)).setCell ⟨w.heap.size + 1, 12, none⟩ (.slice q m d) = X6 at *
    have c0 := box_cell hx.box 0
    have c1 := box_cell hx.box 1
    have c2 := box_cell hx.box 2
    have c3 := box_cell hx.box 3
    have c4 := box_cell hx.box 4
    have c5 := box_cell hx.box 5
    have c6 := box_cell hx.box 6
    have c7 := box_cell hx.box 7
    have c8 := box_cell hx.box 8
    have c9 := box_cell hx.box 9
    have c10 := box_cell hx.box 10
    have c11 := box_cell hx.box 11
    have c12 := box_cell hx.box 12
    have d0 := box_cell hx.res 0
    have d1 := box_cell hx.res 1
    have d2 := box_cell hx.res 2
    have d3 := box_cell hx.res 3
    have d4 := box_cell hx.res 4
    have d5 := box_cell hx.res 5
    have d6 := box_cell hx.res 6
    have d7 := box_cell hx.res 7
    have d8 := box_cell hx.res 8
    have d9 := box_cell hx.res 9
    have d10 := box_cell hx.res 10
    have d11 := box_cell hx.res 11
    have d12 := box_cell hx.res 12
    have fb := frozen9 hx.res
    have hlb := box_lt hx.box
    have hlr := box_lt hx.res
    go_wp2
    have hF := fillE (b := w.heap.size) (x0 := noEV) hx.res z0 z1 3 0 0 0 em9 em9 em9 em9 0 p n c q m d f
    have hR9 := ((((((((((((((((((((((((((hx.r).cell (b := w.heap.size) (by omega) (by omega) 0 (.int .i64 z0))).cell (b := w.heap.size) (by omega) (by omega) 1 (.int .i64 z1))).cell (b := w.heap.size) (by omega) (by omega) 2 (.int .i64 3))).cell (b := w.heap.size) (by omega) (by omega) 3 (.int .i64 0))).cell (b := w.heap.size) (by omega) (by omega) 4 (.int .i64 0))).cell (b := w.heap.size) (by omega) (by omega) 5 (.int .i64 0))).cell (b := w.heap.size) (by omega) (by omega) 6 (.string em9))).cell (b := w.heap.size) (by omega) (by omega) 7 (.string em9))).cell (b := w.heap.size) (by omega) (by omega) 8 (.string em9))).cell (b := w.heap.size) (by omega) (by omega) 9 (.string em9))).cell (b := w.heap.size) (by omega) (by omega) 10 (.int .i64 0))).cell (b := w.heap.size) (by omega) (by omega) 11 (.slice p n c))).cell (b := w.heap.size) (by omega) (by omega) 12 (.slice q m d))
    have hG9 := (grown_new (b := w.heap.size) (grown_new (b := w.heap.size) (grown_new (b := w.heap.size) (grown_new (b := w.heap.size) (grown_new (b := w.heap.size) (grown_new (b := w.heap.size) (grown_new (b := w.heap.size) (grown_new (b := w.heap.size) (grown_new (b := w.heap.size) (grown_new (b := w.heap.size) (grown_new (b := w.heap.size) (grown_new (b := w.heap.size) (grown_new (b := w.heap.size) hx.g (by omega) 0 (.int .i64 z0)) (by omega) 1 (.int .i64 z1)) (by omega) 2 (.int .i64 3)) (by omega) 3 (.int .i64 0)) (by omega) 4 (.int .i64 0)) (by omega) 5 (.int .i64 0)) (by omega) 6 (.string em9)) (by omega) 7 (.string em9)) (by omega) 8 (.string em9)) (by omega) 9 (.string em9)) (by omega) 10 (.int .i64 0)) (by omega) 11 (.slice p n c)) (by omega) 12 (.slice q m d))
    have hO9 := ((((((((((((((((((((((((((hO).cell (b := w.heap.size) (by omega) 0 (.int .i64 z0))).cell (b := w.heap.size) (by omega) 1 (.int .i64 z1))).cell (b := w.heap.size) (by omega) 2 (.int .i64 3))).cell (b := w.heap.size) (by omega) 3 (.int .i64 0))).cell (b := w.heap.size) (by omega) 4 (.int .i64 0))).cell (b := w.heap.size) (by omega) 5 (.int .i64 0))).cell (b := w.heap.size) (by omega) 6 (.string em9))).cell (b := w.heap.size) (by omega) 7 (.string em9))).cell (b := w.heap.size) (by omega) 8 (.string em9))).cell (b := w.heap.size) (by omega) 9 (.string em9))).cell (b := w.heap.size) (by omega) 10 (.int .i64 0))).cell (b := w.heap.size) (by omega) 11 (.slice p n c))).cell (b := w.heap.size) (by omega) 12 (.slice q m d))
    
    refine bodyPost_ret (ret_one rfl _ _ w.heap.size _ _ _ _ rfl hF Tryz.underlying30 rfl (by kernel_rfl)) rfl ⟨⟨z0, z1, 3, ⟨0, 0, 0, em9, em9, em9, em9, 0⟩, ⟨⟨p, n, c⟩, ⟨q, m, d⟩, f⟩⟩, rfl, ?_, hO9.mono (by omega), fits_zeroC, ?_, hG9⟩
    · rw [HT.out, ← HXf.out]; rfl
    · rw [HT.out]; exact hR9
  have e3' : (z2 == 3) = false := by simpa using e3
  have HT : Hid (R = (⟨z0, z1, z2, zeroC9, noF10⟩, S3)) := by
    rw [Hid, HC.out, ptail10_else _ _ _ _ e2 e3]
  clear HC e2 e3 c2 hlb
  have hx := h4
  have c2 := box_cell hx.box 2
  have hlb := box_lt hx.box
  go_upto_region 9 with fail
  have hO := OwnsF.nil X4 (w.heap.size + 1)
  clear c2 hlb h4
  have c0 := box_cell hx.box 0
  have c1 := box_cell hx.box 1
  have c2 := box_cell hx.box 2
  have c3 := box_cell hx.box 3
  have c4 := box_cell hx.box 4
  have c5 := box_cell hx.box 5
  have c6 := box_cell hx.box 6
  have c7 := box_cell hx.box 7
  have c8 := box_cell hx.box 8
  have c9 := box_cell hx.box 9
  have c10 := box_cell hx.box 10
  have c11 := box_cell hx.box 11
  have c12 := box_cell hx.box 12
  have d0 := box_cell hx.res 0
  have d1 := box_cell hx.res 1
  have d2 := box_cell hx.res 2
  have d3 := box_cell hx.res 3
  have d4 := box_cell hx.res 4
  have d5 := box_cell hx.res 5
  have d6 := box_cell hx.res 6
  have d7 := box_cell hx.res 7
  have d8 := box_cell hx.res 8
  have d9 := box_cell hx.res 9
  have d10 := box_cell hx.res 10
  have d11 := box_cell hx.res 11
  have d12 := box_cell hx.res 12
  have fb := frozen9 hx.res
  have hlb := box_lt hx.box
  have hlr := box_lt hx.res
  go_wp2
  have hF := fillE (b := w.heap.size) (x0 := noEV) hx.res z0 z1 z2 0 0 0 em9 em9 em9 em9 0 none 0 0 none 0 0 noF10
  have hR9 := ((((((((((((((((((((((((((hx.r).cell (b := w.heap.size) (by omega) (by omega) 0 (.int .i64 z0))).cell (b := w.heap.size) (by omega) (by omega) 1 (.int .i64 z1))).cell (b := w.heap.size) (by omega) (by omega) 2 (.int .i64 z2))).cell (b := w.heap.size) (by omega) (by omega) 3 (.int .i64 0))).cell (b := w.heap.size) (by omega) (by omega) 4 (.int .i64 0))).cell (b := w.heap.size) (by omega) (by omega) 5 (.int .i64 0))).cell (b := w.heap.size) (by omega) (by omega) 6 (.string em9))).cell (b := w.heap.size) (by omega) (by omega) 7 (.string em9))).cell (b := w.heap.size) (by omega) (by omega) 8 (.string em9))).cell (b := w.heap.size) (by omega) (by omega) 9 (.string em9))).cell (b := w.heap.size) (by omega) (by omega) 10 (.int .i64 0))).cell (b := w.heap.size) (by omega) (by omega) 11 (.slice none 0 0))).cell (b := w.heap.size) (by omega) (by omega) 12 (.slice none 0 0))
  have hG9 := (grown_new (b := w.heap.size) (grown_new (b := w.heap.size) (grown_new (b := w.heap.size) (grown_new (b := w.heap.size) (grown_new (b := w.heap.size) (grown_new (b := w.heap.size) (grown_new (b := w.heap.size) (grown_new (b := w.heap.size) (grown_new (b := w.heap.size) (grown_new (b := w.heap.size) (grown_new (b := w.heap.size) (grown_new (b := w.heap.size) (grown_new (b := w.heap.size) hx.g (by omega) 0 (.int .i64 z0)) (by omega) 1 (.int .i64 z1)) (by omega) 2 (.int .i64 z2)) (by omega) 3 (.int .i64 0)) (by omega) 4 (.int .i64 0)) (by omega) 5 (.int .i64 0)) (by omega) 6 (.string em9)) (by omega) 7 (.string em9)) (by omega) 8 (.string em9)) (by omega) 9 (.string em9)) (by omega) 10 (.int .i64 0)) (by omega) 11 (.slice none 0 0)) (by omega) 12 (.slice none 0 0))
  have hO9 := ((((((((((((((((((((((((((hO).cell (b := w.heap.size) (by omega) 0 (.int .i64 z0))).cell (b := w.heap.size) (by omega) 1 (.int .i64 z1))).cell (b := w.heap.size) (by omega) 2 (.int .i64 z2))).cell (b := w.heap.size) (by omega) 3 (.int .i64 0))).cell (b := w.heap.size) (by omega) 4 (.int .i64 0))).cell (b := w.heap.size) (by omega) 5 (.int .i64 0))).cell (b := w.heap.size) (by omega) 6 (.string em9))).cell (b := w.heap.size) (by omega) 7 (.string em9))).cell (b := w.heap.size) (by omega) 8 (.string em9))).cell (b := w.heap.size) (by omega) 9 (.string em9))).cell (b := w.heap.size) (by omega) 10 (.int .i64 0))).cell (b := w.heap.size) (by omega) 11 (.slice none 0 0))).cell (b := w.heap.size) (by omega) 12 (.slice none 0 0))
  
  refine bodyPost_ret (ret_one rfl _ _ w.heap.size _ _ _ _ rfl hF Tryz.underlying30 rfl (by kernel_rfl)) rfl ⟨⟨z0, z1, z2, ⟨0, 0, 0, em9, em9, em9, em9, 0⟩, noFV⟩, rfl, ?_, hO9.mono (by omega), fits_zeroC, ?_, hG9⟩
  · rw [HT.out]; rfl
  · rw [HT.out]; exact hR9
end Go.Proofs.YtnbaoimjcaeeaaaGreat
