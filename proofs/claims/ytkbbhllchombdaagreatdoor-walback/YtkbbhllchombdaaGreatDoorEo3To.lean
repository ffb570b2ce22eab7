import Derived.Test.YtkbbhllchombdaaGreatDoorEo1
import Derived.Test.YtkbbhllchombdaaGreatDoorLxTo
import Derived.Deep.DeepCutAuto
import Derived.Test.YtkbbhllchombdaaGreatDoorLd
namespace Go.Proofs.YtkbbhllchombdaaGreatDoor
open Go.RowKit Go.Shelf
attribute [local go_sem ↓] ldE_exec ldE_run stE_exec stE_run ldC_exec ldC_run stC_exec stC_run ldW_exec stW_exec ldR_exec stR_exec ldT_exec stT_exec ldU_exec stU_exec oc_int oc_bool oc_string oc_slice oc_pointer
theorem ConfAt.put {w : World} {b : Nat} {x x' : ConfV} (h : ConfAt w b x) (i : Nat) (v : Value) (hi : i < 2) (hc : x'.arr = x.arr.set i v (by show i < 2; exact hi)) : ConfAt (w.setCell ⟨b, i, none⟩ v) b x' := by
  unfold ConfAt
  rw [hc]
  exact set_block9 h i v _
theorem fillF {w : World} {b : Nat} {x0 : ConfV} (h : ConfAt w b x0) (p : Option Addr) (n : Nat) (c : Nat) (q : Option Addr) (m : Nat) (d : Nat) (f : Conf10) : ConfAt ((w.setCell ⟨b, 0, none⟩ (.slice p n c)).setCell ⟨b, 1, none⟩ (.slice q m d)) b ⟨⟨p, n, c⟩, ⟨q, m, d⟩, f⟩ := by
  obtain ⟨⟨p0_, n0_, c0_⟩, ⟨q0_, m0_, d0_⟩, f0_⟩ := x0
  exact ((h.put (x' := ⟨⟨p, n, c⟩, ⟨q0_, m0_, d0_⟩, f⟩) 0 _ (by decide) rfl).put (x' := ⟨⟨p, n, c⟩, ⟨q, m, d⟩, f⟩) 1 _ (by decide) rfl)

theorem EntAt.put {w : World} {b : Nat} {x x' : EntV} (h : EntAt w b x) (i : Nat) (v : Value) (hi : i < 13) (hc : x'.arr = x.arr.set i v (by show i < 13; exact hi)) : EntAt (w.setCell ⟨b, i, none⟩ v) b x' := by
  unfold EntAt
  rw [hc]
  exact set_block9 h i v _
theorem fillE {w : World} {b : Nat} {x0 : EntV} (h : EntAt w b x0) (i : Int) (t : Int) (k : Int) (ck : Int) (cs : Int) (cq : Int) (ckey : ByteArray) (cold : ByteArray) (cval : ByteArray) (cunt : ByteArray) (clim : Int) (p : Option Addr) (n : Nat) (c : Nat) (q : Option Addr) (m : Nat) (d : Nat) (f : Conf10) : EntAt (((((((((((((w.setCell ⟨b, 0, none⟩ (.int .i64 i)).setCell ⟨b, 1, none⟩ (.int .i64 t)).setCell ⟨b, 2, none⟩ (.int .i64 k)).setCell ⟨b, 3, none⟩ (.int .i64 ck)).setCell ⟨b, 4, none⟩ (.int .i64 cs)).setCell ⟨b, 5, none⟩ (.int .i64 cq)).setCell ⟨b, 6, none⟩ (.string ckey)).setCell ⟨b, 7, none⟩ (.string cold)).setCell ⟨b, 8, none⟩ (.string cval)).setCell ⟨b, 9, none⟩ (.string cunt)).setCell ⟨b, 10, none⟩ (.int .i64 clim)).setCell ⟨b, 11, none⟩ (.slice p n c)).setCell ⟨b, 12, none⟩ (.slice q m d)) b ⟨i, t, k, ⟨ck, cs, cq, ckey, cold, cval, cunt, clim⟩, ⟨⟨p, n, c⟩, ⟨q, m, d⟩, f⟩⟩ := by
  obtain ⟨i0_, t0_, k0_, ⟨ck0_, cs0_, cq0_, ckey0_, cold0_, cval0_, cunt0_, clim0_⟩, ⟨⟨p0_, n0_, c0_⟩, ⟨q0_, m0_, d0_⟩, f0_⟩⟩ := x0
  exact (((((((((((((h.put (x' := ⟨i, t0_, k0_, ⟨ck0_, cs0_, cq0_, ckey0_, cold0_, cval0_, cunt0_, clim0_⟩, ⟨⟨p0_, n0_, c0_⟩, ⟨q0_, m0_, d0_⟩, f⟩⟩) 0 _ (by decide) rfl).put (x' := ⟨i, t, k0_, ⟨ck0_, cs0_, cq0_, ckey0_, cold0_, cval0_, cunt0_, clim0_⟩, ⟨⟨p0_, n0_, c0_⟩, ⟨q0_, m0_, d0_⟩, f⟩⟩) 1 _ (by decide) rfl).put (x' := ⟨i, t, k, ⟨ck0_, cs0_, cq0_, ckey0_, cold0_, cval0_, cunt0_, clim0_⟩, ⟨⟨p0_, n0_, c0_⟩, ⟨q0_, m0_, d0_⟩, f⟩⟩) 2 _ (by decide) rfl).put (x' := ⟨i, t, k, ⟨ck, cs0_, cq0_, ckey0_, cold0_, cval0_, cunt0_, clim0_⟩, ⟨⟨p0_, n0_, c0_⟩, ⟨q0_, m0_, d0_⟩, f⟩⟩) 3 _ (by decide) rfl).put (x' := ⟨i, t, k, ⟨ck, cs, cq0_, ckey0_, cold0_, cval0_, cunt0_, clim0_⟩, ⟨⟨p0_, n0_, c0_⟩, ⟨q0_, m0_, d0_⟩, f⟩⟩) 4 _ (by decide) rfl).put (x' := ⟨i, t, k, ⟨ck, cs, cq, ckey0_, cold0_, cval0_, cunt0_, clim0_⟩, ⟨⟨p0_, n0_, c0_⟩, ⟨q0_, m0_, d0_⟩, f⟩⟩) 5 _ (by decide) rfl).put (x' := ⟨i, t, k, ⟨ck, cs, cq, ckey, cold0_, cval0_, cunt0_, clim0_⟩, ⟨⟨p0_, n0_, c0_⟩, ⟨q0_, m0_, d0_⟩, f⟩⟩) 6 _ (by decide) rfl).put (x' := ⟨i, t, k, ⟨ck, cs, cq, ckey, cold, cval0_, cunt0_, clim0_⟩, ⟨⟨p0_, n0_, c0_⟩, ⟨q0_, m0_, d0_⟩, f⟩⟩) 7 _ (by decide) rfl).put (x' := ⟨i, t, k, ⟨ck, cs, cq, ckey, cold, cval, cunt0_, clim0_⟩, ⟨⟨p0_, n0_, c0_⟩, ⟨q0_, m0_, d0_⟩, f⟩⟩) 8 _ (by decide) rfl).put (x' := ⟨i, t, k, ⟨ck, cs, cq, ckey, cold, cval, cunt, clim0_⟩, ⟨⟨p0_, n0_, c0_⟩, ⟨q0_, m0_, d0_⟩, f⟩⟩) 9 _ (by decide) rfl).put (x' := ⟨i, t, k, ⟨ck, cs, cq, ckey, cold, cval, cunt, clim⟩, ⟨⟨p0_, n0_, c0_⟩, ⟨q0_, m0_, d0_⟩, f⟩⟩) 10 _ (by decide) rfl).put (x' := ⟨i, t, k, ⟨ck, cs, cq, ckey, cold, cval, cunt, clim⟩, ⟨⟨p, n, c⟩, ⟨q0_, m0_, d0_⟩, f⟩⟩) 11 _ (by decide) rfl).put (x' := ⟨i, t, k, ⟨ck, cs, cq, ckey, cold, cval, cunt, clim⟩, ⟨⟨p, n, c⟩, ⟨q, m, d⟩, f⟩⟩) 12 _ (by decide) rfl)

theorem HardAt.put {w : World} {b : Nat} {x x' : Hard10} (h : HardAt w b x) (i : Nat) (v : Value) (hi : i < 3) (hc : x'.arr = x.arr.set i v (by show i < 3; exact hi)) : HardAt (w.setCell ⟨b, i, none⟩ v) b x' := by
  unfold HardAt
  rw [hc]
  exact set_block9 h i v _
theorem fillH {w : World} {b : Nat} {x0 : Hard10} (h : HardAt w b x0) (ht : Int) (hv : Int) (hc : Int) : HardAt (((w.setCell ⟨b, 0, none⟩ (.int .i64 ht)).setCell ⟨b, 1, none⟩ (.int .i64 hv)).setCell ⟨b, 2, none⟩ (.int .i64 hc)) b ⟨ht, hv, hc⟩ := by
  obtain ⟨ht0_, hv0_, hc0_⟩ := x0
  exact (((h.put (x' := ⟨ht, hv0_, hc0_⟩) 0 _ (by decide) rfl).put (x' := ⟨ht, hv, hc0_⟩) 1 _ (by decide) rfl).put (x' := ⟨ht, hv, hc⟩) 2 _ (by decide) rfl)

theorem fillC {w : World} {b : Nat} {c0 : Cmd9} (h : CmdAt w b c0) (k s q : Int) (key old val unt : ByteArray) (lim : Int) :
    CmdAt ((((((((w.setCell ⟨b, 0, none⟩ (.int .i64 k)).setCell ⟨b, 1, none⟩ (.int .i64 s)).setCell ⟨b, 2, none⟩ (.int .i64 q)).setCell ⟨b, 3, none⟩ (.string key)).setCell ⟨b, 4, none⟩ (.string old)).setCell ⟨b, 5, none⟩ (.string val)).setCell ⟨b, 6, none⟩ (.string unt)).setCell ⟨b, 7, none⟩ (.int .i64 lim)) b ⟨k, s, q, key, old, val, unt, lim⟩ :=
  ((((((((h.put (c' := ⟨k, c0.s, c0.q, c0.key, c0.old, c0.val, c0.unt, c0.lim⟩) 0 (.int .i64 k) (by omega) rfl).put (c' := ⟨k, s, c0.q, c0.key, c0.old, c0.val, c0.unt, c0.lim⟩) 1 (.int .i64 s) (by omega) rfl).put (c' := ⟨k, s, q, c0.key, c0.old, c0.val, c0.unt, c0.lim⟩) 2 (.int .i64 q) (by omega) rfl).put (c' := ⟨k, s, q, key, c0.old, c0.val, c0.unt, c0.lim⟩) 3 (.string key) (by omega) rfl).put (c' := ⟨k, s, q, key, old, c0.val, c0.unt, c0.lim⟩) 4 (.string old) (by omega) rfl).put (c' := ⟨k, s, q, key, old, val, c0.unt, c0.lim⟩) 5 (.string val) (by omega) rfl).put (c' := ⟨k, s, q, key, old, val, unt, c0.lim⟩) 6 (.string unt) (by omega) rfl).put (c' := ⟨k, s, q, key, old, val, unt, lim⟩) 7 (.int .i64 lim) (by omega) rfl)
structure OwnsF (w : World) (B : Nat) (x : ConfV) : Prop where
  u : OwnsI w B (.slice x.u.p x.u.n x.u.c) x.f.vs
  v : OwnsI w B (.slice x.v.p x.v.n x.v.c) x.f.ls
  iu : inL x.f.vs
  iv : inL x.f.ls
  lu : x.f.vs.length ≤ 1000000
  lv : x.f.ls.length ≤ 1000000
theorem OwnsF.fits {w : World} {B : Nat} {x : ConfV} (h : OwnsF w B x) : FitsF w x := ⟨h.u.has, h.v.has, h.iu, h.iv, Nat.le_trans h.lu (by decide), Nat.le_trans h.lv (by decide)⟩
theorem OwnsF.mono {w : World} {B B' : Nat} {x : ConfV} (h : OwnsF w B x) (hB : B' ≤ B) : OwnsF w B' x := ⟨h.u.mono hB, h.v.mono hB, h.iu, h.iv, h.lu, h.lv⟩
theorem OwnsF.kept {w w' : World} {B r : Nat} {x : ConfV} (h : OwnsF w B x) (hg : w.grownBy w' (some r)) (hr : r < B) : OwnsF w' B x := ⟨h.u.kept10 hg hr, h.v.kept10 hg hr, h.iu, h.iv, h.lu, h.lv⟩
theorem OwnsF.below {w w' : World} {B : Nat} {x : ConfV} (h : OwnsF w B x) (hb : Below w.heap.size w w') : OwnsF w' B x := ⟨h.u.below hb (Nat.le_refl _), h.v.below hb (Nat.le_refl _), h.iu, h.iv, h.lu, h.lv⟩
theorem OwnsF.nil (w : World) (B : Nat) : OwnsF w B noFV := ⟨OwnsI.nil w B, OwnsI.nil w B, (fun _ h => by cases h), (fun _ h => by cases h), Nat.zero_le _, Nat.zero_le _⟩
theorem grown_new {w x : World} {rb b : Nat} (h : w.grownBy x (some rb)) (hb : w.heap.size ≤ b) (i : Nat) (v : Value) : w.grownBy (x.setCell ⟨b, i, none⟩ v) (some rb) := by
  have hg := grown_set x b i v
  exact ⟨hg.os.trans h.os, hg.tape.trans h.tape, hg.output.trans h.output, Nat.le_trans h.size hg.size, fun k hk hr => (hg.block k (Nat.lt_of_lt_of_le hk h.size) (by intro e; have := Option.some.inj e; omega)).trans (h.block k hk hr)⟩
theorem Rdr.cell {w0 w : World} {rb b : Nat} {S : St} (h : Rdr w0 w rb S) (hb : w0.heap.size ≤ b) (hne : rb ≠ b) (i : Nat) (v : Value) : Rdr w0 (w.setCell ⟨b, i, none⟩ v) rb S := h.set (grown_set w b i v) hb hne
theorem OwnsF.cell {w : World} {B b : Nat} {x : ConfV} (h : OwnsF w B x) (hb : b < B) (i : Nat) (v : Value) : OwnsF (w.setCell ⟨b, i, none⟩ v) B x := h.kept (grown_set w b i v) hb
theorem list10_len (m : Int) (hm : 0 ≤ m) (hm2 : m ≤ 1000000) (S : St) : (list10 m S).1.length ≤ 1000000 := by
  have := (cnt_of m hm S).2
  unfold list10
  rw [ints10_len]
  omega
theorem list10_in (m : Int) (S : St) : inL (list10 m S).1 := ints10_in _ _

set_option maxRecDepth 100000 in
set_option maxHeartbeats 2000000 in
theorem confR_any (w0 w : World) (rb : Nat) (S : St) (h : Rdr w0 w rb S) :
    Calls Tryz.prog 261 #[.pointer (some ⟨rb, 0, none⟩)] w fun e w' => ∃ X : ConfV, e = .returned (.agg X.arr) ∧ OwnsF w' w.heap.size X ∧ X.f = (conf10 9 S).1 ∧ Left10 w0 w rb (conf10 9 S).2 w' := by
  have hmf : ∀ (fn : Fn) (first cap : Array Value) (w : World), (Instr.makeFunc fn first cap).run Tryz.prog w = .ok (.func fn first cap) w := fun _ _ _ _ => rfl
  have HC : Hid (conf10 9 S = (⟨(list10 9 S).1, (list10 9 (list10 9 S).2).1⟩, (list10 9 (list10 9 S).2).2)) := rfl
  have hb1 : Below w.heap.size w (w.alloc (.cells noFV.arr 26)) := (Below.refl _ _).alloc (Nat.le_refl _) _
  have hbox : ConfAt (w.alloc (.cells noFV.arr 26)) w.heap.size noFV := heap_alloc_new w _
  have hz1 : (w.alloc (.cells noFV.arr 26)).heap.size = w.heap.size + 1 := by simp
  have hrl := h.lt
  have hwb := h.bel.size
  have k1 := listI_any w0 _ rb S (h.more hb1)
  have HI1 : Hid (inL (list10 9 S).1) := list10_in 9 S
  have HI2 : Hid (inL (list10 9 (list10 9 S).2).1) := list10_in 9 _
  have HL1 : Hid ((list10 9 S).1.length ≤ 1000000) := list10_len 9 (by decide) (by decide) S
  have HL2 : Hid ((list10 9 (list10 9 S).2).1.length ≤ 1000000) := list10_len 9 (by decide) (by decide) _
  generalize conf10 9 S = R at *
  generalize list10 9 S = A at *
  obtain ⟨l1, S1⟩ := A
  dsimp only at k1 HC HI1 HI2 HL1 HL2
  unfold noFV nilS10 at *
  unfold ConfV.arr at *
  dsimp only at *
  go_enter Tryz.func261, Tryz.ntmps261
  go_wp2_with fail
  generalize w.alloc (.cells #[.slice none 0 0, .slice none 0 0] 26) = W1 at *
  refine k1.mono ?_
  rintro e w2 ⟨p, n, c, rfl, ho2, hR2, hg2⟩
  have k2 := listI_any w0 _ rb S1 hR2
  have hbox2 := grown_box hg2 hbox (by omega)
  have hsz2 := hg2.size
  generalize list10 9 S1 = A at *
  obtain ⟨l2, S2⟩ := A
  dsimp only at k2 HC HI2 HL2
  clear k1 hbox hR2
  go_wp2_with fail
  refine k2.mono ?_
  rintro e w3 ⟨q, m, d, rfl, ho3, hR3, hg3⟩
  have hbox3 : ConfAt w3 w.heap.size ⟨⟨none, 0, 0⟩, ⟨none, 0, 0⟩, noF10⟩ := grown_box hg3 hbox2 (by omega)
  have ho2' := ho2.kept10 hg3 (by omega)
  have hG3 := grown_after hb1 (grown_trans hg2 hg3)
  obtain ⟨c0, c1⟩ := hbox3.cells
  dsimp only at c0 c1
  have hlt := box_lt hbox3
  have f0 := frozen9 hbox3
  have hO : OwnsF w3 W1.heap.size ⟨⟨p, n, c⟩, ⟨q, m, d⟩, ⟨l1, l2⟩⟩ := ⟨ho2', ho3.mono hsz2, HI1.out, HI2.out, HL1.out, HL2.out⟩
  clear k2 hbox2 ho2 ho2' ho3 hg2 hg3
  go_wp2
  have hF := fillF hbox3 p n c q m d ⟨l1, l2⟩
  have hR9 := (hR3.cell (b := w.heap.size) (by omega) (by omega) 0 (.slice p n c)).cell (b := w.heap.size) (by omega) (by omega) 1 (.slice q m d)
  have hO9 := (hO.cell (b := w.heap.size) (by omega) 0 (.slice p n c)).cell (b := w.heap.size) (by omega) 1 (.slice q m d)
  have hG9 := grown_new (grown_new hG3 (Nat.le_refl _) 0 (.slice p n c)) (Nat.le_refl _) 1 (.slice q m d)
  refine bodyPost_ret (ret_one rfl _ _ w.heap.size _ _ _ _ rfl hF Tryz.underlying26 rfl (by kernel_rfl)) rfl ⟨⟨⟨p, n, c⟩, ⟨q, m, d⟩, ⟨l1, l2⟩⟩, rfl, hO9.mono (by omega), ?_, ?_, hG9⟩
  · rw [HC.out]
  · rw [HC.out]; exact hR9

theorem bytes_has (w : World) (s : ByteArray) : Has (Lib.bytesWorld w 5 s) (.slice (some ⟨w.heap.size, 0, none⟩) s.size (grownCap w s.size 0 5)) (strB s) ∧ Below w.heap.size w (Lib.bytesWorld w 5 s) := by
  refine ⟨⟨some ⟨w.heap.size, 0, none⟩, _, by rw [strB_length], by rw [strB_length]; exact grownCap_ge _ _ _ _, (fun h => by cases h), fun _ => ⟨w.heap.size, 0, rfl, by rw [Lib.bytesWorld_size]; omega, fun i hi => ?_⟩⟩, ⟨rfl, rfl, rfl, by rw [Lib.bytesWorld_size]; omega, fun k hk => Lib.bytesWorld_at_old w _ s k hk⟩⟩
  rw [strB_length] at hi
  rw [Nat.zero_add, Lib.bytesWorld_cell w _ s i hi]
  unfold strB
  have hi' : i < s.data.toList.length := by rw [Array.length_toList]; exact hi
  simp [List.getD_eq_getElem?_getD, List.getElem?_eq_getElem hi']

theorem byt10_isB {S : St} (h : IsB S.1) : IsB (byt10 S).1 := by
  unfold byt10
  dsimp only
  unfold getTextS
  split
  · exact IsB.nil
  · exact IsB.cut h _ _
theorem byt10_len (S : St) : (byt10 S).1.length ≤ S.1.length := (getTextS_bd S.1).2

set_option maxRecDepth 100000 in
set_option maxHeartbeats 2000000 in
theorem cmdR_any (w0 w : World) (rb : Nat) (S : St) (h : Rdr w0 w rb S) :
    Calls Tryz.prog 260 #[.pointer (some ⟨rb, 0, none⟩)] w fun e w' => e = .returned (.agg (readC9 (byt10 S).1).1.arr) ∧ Left10 w0 w rb (byt10 S).2 w' := by
  have hb1 : Below w.heap.size w (w.alloc (.cells zeroC9.arr 23)) := (Below.refl _ _).alloc (Nat.le_refl _) _
  have hbox : CmdAt (w.alloc (.cells zeroC9.arr 23)) w.heap.size zeroC9 := heap_alloc_new w _
  have hrl := h.lt
  have hwb := h.bel.size
  have k1 := (h.more hb1).text
  have HB : Hid (IsB (byt10 S).1) := byt10_isB h.isb
  have hlen := byt10_len S
  have hlS := h.len
  have kr : Hid (∀ W v, Has W v (byt10 S).1 → Calls Tryz.prog 304 #[v] W fun e w' => e = .returned (.tuple #[.agg (readC9 (byt10 S).1).1.arr, .int .i64 (readC9 (byt10 S).1).2]) ∧ Below W.heap.size W w') := fun W v hv => readC_any v _ W hv HB.out (by omega)
  have HT : Hid (strB (strOfNums (byt10 S).1) = (byt10 S).1) := strB_of HB.out
  generalize byt10 S = A at *
  obtain ⟨xs, S1⟩ := A
  dsimp only at k1 kr HB HT hlen
  generalize readC9 xs = R at *
  obtain ⟨⟨ck, cs, cq, ckey, cold, cval, cunt, clim⟩, err⟩ := R
  generalize strOfNums xs = sx at *
  unfold zeroC9 at *
  unfold Cmd9.arr at *
  dsimp only at *
  clear h hlen hlS
  go_enter Tryz.func260, Tryz.ntmps260
  go_wp2_with fail
  generalize w.alloc (.cells #[.int .i64 0, .int .i64 0, .int .i64 0, .string em9, .string em9, .string em9, .string em9, .int .i64 0] 23) = W1 at *
  refine k1.mono ?_
  rintro e w2 ⟨rfl, hR2, hg2⟩
  have hbox2 := grown_box hg2 hbox (by omega)
  have hcv := Lib.run_convert_string_bytes (P := Tryz.prog) w2 9 33 5 sx (u := .string) Tryz.underlying9 Tryz.underlying33 Tryz.underlying5
  obtain ⟨hH, hb3⟩ := bytes_has w2 sx
  rw [HT.out] at hH
  have hG2 := grown_after hb1 hg2
  have hR3 := hR2.more hb3
  have hbox3 := box_below hbox2 hb3
  have hG3 := grown_trans hG2 (below_grownBy hb3)
  have k3 := kr.out _ _ hH
  clear k1 hbox hR2 hg2 hbox2 hG2 hH hb3
  generalize Lib.bytesWorld w2 5 sx = W3 at *
  generalize grownCap w2 sx.size 0 5 = gc at *
  go_wp2_with fail
  refine k3.mono ?_
  rintro e w4 ⟨rfl, hb4⟩
  have hb5 : Below w4.heap.size w4 (w4.alloc (.cells (Cmd9.mk ck cs cq ckey cold cval cunt clim).arr 23)) := (Below.refl _ _).alloc (Nat.le_refl _) _
  have hbn : CmdAt (w4.alloc (.cells (Cmd9.mk ck cs cq ckey cold cval cunt clim).arr 23)) w4.heap.size ⟨ck, cs, cq, ckey, cold, cval, cunt, clim⟩ := heap_alloc_new w4 _
  have hR5 := (hR3.more hb4).more hb5
  have hbox5 : CmdAt _ w.heap.size ⟨0, 0, 0, em9, em9, em9, em9, 0⟩ := box_below (box_below hbox3 hb4) hb5
  have hG5 := grown_trans (grown_trans hG3 (below_grownBy hb4)) (below_grownBy hb5)
  unfold Cmd9.arr at hb5 hbn hR5 hbox5 hG5
  dsimp only at hb5 hbn hR5 hbox5 hG5
  clear k3 hR3 hbox3 hG3 hb4 hb5 hcv
  go_upto_region 2 with fail
  generalize w4.alloc (.cells #[.int .i64 ck, .int .i64 cs, .int .i64 cq, .string ckey, .string cold, .string cval, .string cunt, .int .i64 clim] 23) = W5 at *
  replace hbox5 : CmdAt W5 w.heap.size ⟨0, 0, 0, em9, em9, em9, em9, 0⟩ := hbox5
  replace hbn : CmdAt W5 w4.heap.size ⟨ck, cs, cq, ckey, cold, cval, cunt, clim⟩ := hbn
  obtain ⟨c0, c1, c2, c3, c4, c5, c6, c7⟩ := hbn.cells
  obtain ⟨d0, d1, d2, d3, d4, d5, d6, d7⟩ := hbox5.cells
  dsimp only at c0 c1 c2 c3 c4 c5 c6 c7 d0 d1 d2 d3 d4 d5 d6 d7
  have hl1 := hbn.lt
  have hl2 := hbox5.lt
  have f0 := frozen9 hbox5
  generalize w4.heap.size = bn at *
  go_wp2
  have hF := fillC hbox5 ck cs cq ckey cold cval cunt clim
  have hR9 := ((((((((((((((((hR5).cell (b := w.heap.size) (by omega) (by omega) 0 (.int .i64 ck))).cell (b := w.heap.size) (by omega) (by omega) 1 (.int .i64 cs))).cell (b := w.heap.size) (by omega) (by omega) 2 (.int .i64 cq))).cell (b := w.heap.size) (by omega) (by omega) 3 (.string ckey))).cell (b := w.heap.size) (by omega) (by omega) 4 (.string cold))).cell (b := w.heap.size) (by omega) (by omega) 5 (.string cval))).cell (b := w.heap.size) (by omega) (by omega) 6 (.string cunt))).cell (b := w.heap.size) (by omega) (by omega) 7 (.int .i64 clim))
  have hG9 := (grown_new (b := w.heap.size) (grown_new (b := w.heap.size) (grown_new (b := w.heap.size) (grown_new (b := w.heap.size) (grown_new (b := w.heap.size) (grown_new (b := w.heap.size) (grown_new (b := w.heap.size) (grown_new (b := w.heap.size) hG5 (by omega) 0 (.int .i64 ck)) (by omega) 1 (.int .i64 cs)) (by omega) 2 (.int .i64 cq)) (by omega) 3 (.string ckey)) (by omega) 4 (.string cold)) (by omega) 5 (.string cval)) (by omega) 6 (.string cunt)) (by omega) 7 (.int .i64 clim))
  exact bodyPost_ret (ret_one rfl _ _ w.heap.size _ _ _ _ rfl hF Tryz.underlying23 rfl (by kernel_rfl)) rfl ⟨rfl, hR9, hG9⟩
structure RdX (w0 w wc : World) (rb : Nat) (S : St) (T : TypeId) (a z : Array Value) : Prop where
  r : Rdr w0 wc rb S
  box : wc.heap[w.heap.size + 1]? = some (.cells a T (0, 0))
  res : wc.heap[w.heap.size]? = some (.cells z T (0, 0))
  g : w.grownBy wc (some rb)
  lt : rb < w.heap.size
  le : w0.heap.size ≤ rb
theorem RdX.new {w0 w : World} {rb : Nat} {S : St} (h : Rdr w0 w rb S) (T : TypeId) (z : Array Value) : RdX w0 w ((w.alloc (.cells z T)).alloc (.cells z T)) rb S T z z := by
  have hb1 : Below w.heap.size w (w.alloc (.cells z T)) := (Below.refl _ _).alloc (Nat.le_refl _) _
  have hz1 : (w.alloc (.cells z T)).heap.size = w.heap.size + 1 := by simp
  have hb2 := (Below.refl _ (w.alloc (.cells z T))).alloc (Nat.le_refl _) (.cells z T)
  have hn := heap_alloc_new (w.alloc (.cells z T)) (.cells z T)
  rw [hz1] at hn
  exact ⟨(h.more hb1).more hb2, hn, box_below (heap_alloc_new w _) hb2, grown_after hb1 (below_grownBy hb2), h.lt.2, h.lt.1⟩
theorem RdX.left {w0 w wc wd : World} {rb : Nat} {S S' : St} {T : TypeId} {a z : Array Value} (h : RdX w0 w wc rb S T a z) (hl : Left10 w0 wc rb S' wd) : RdX w0 w wd rb S' T a z := by
  have := h.lt
  exact ⟨hl.1, grown_box hl.2 h.box (by omega), grown_box hl.2 h.res (by omega), grown_trans h.g hl.2, h.lt, h.le⟩
theorem RdX.put {w0 w wc : World} {rb : Nat} {S : St} {T : TypeId} {a z : Array Value} (h : RdX w0 w wc rb S T a z) (i : Nat) (v : Value) (hi : i < a.size) : RdX w0 w (wc.setCell ⟨w.heap.size + 1, i, none⟩ v) rb S T (a.set i v hi) z := by
  have h1 := h.lt
  have h2 := h.le
  refine ⟨h.r.cell (by omega) (by omega) i v, set_block9 h.box i v hi, ?_, grown_new h.g (by omega) i v, h.lt, h.le⟩
  exact grown_box (grown_set wc (w.heap.size + 1) i v) h.res (by omega)
theorem ptail10_cmd (i t : Int) (S : St) : ptail10 i t 2 S = (⟨i, t, 2, (readC9 (byt10 S).1).1, noF10⟩, (byt10 S).2) := by
  unfold ptail10 bindR retR
  rw [if_pos rfl]
theorem ptail10_conf (i t : Int) (S : St) : ptail10 i t 3 S = (⟨i, t, 3, zeroC9, (conf10 9 S).1⟩, (conf10 9 S).2) := by
  unfold ptail10 bindR retR
  rw [if_neg (by decide), if_pos rfl]
theorem ptail10_else (i t k : Int) (S : St) (h2 : k ≠ 2) (h3 : k ≠ 3) : ptail10 i t k S = (⟨i, t, k, zeroC9, noF10⟩, S) := by
  unfold ptail10 bindR retR
  rw [if_neg h2, if_neg h3]
theorem bindR_def {α β : Type} (f : St → α × St) (g : α → St → β × St) (s : St) : bindR f g s = g (f s).1 (f s).2 := rfl
theorem pent10_is (S : St) : pent10 S = ptail10 (int9 S).1 (int9 (int9 S).2).1 (int9 (int9 (int9 S).2).2).1 (int9 (int9 (int9 S).2).2).2 := by
  unfold pent10
  rw [bindR_def, bindR_def, bindR_def]
theorem hard10_is (S : St) : hard10 S = (⟨(int9 S).1, (int9 (int9 S).2).1, (int9 (int9 (int9 S).2).2).1⟩, (int9 (int9 (int9 S).2).2).2) := by
  unfold hard10
  rfl


set_option maxRecDepth 100000 in
set_option maxHeartbeats 2000000 in
theorem hardR_any (w0 w : World) (rb : Nat) (S : St) (h : Rdr w0 w rb S) :
    Calls Tryz.prog 218 #[.pointer (some ⟨rb, 0, none⟩)] w fun e w' => e = .returned (.agg (hard10 S).1.arr) ∧ Left10 w0 w rb (hard10 S).2 w' := by
  have hmf : ∀ (fn : Fn) (first cap : Array Value) (w : World), (Instr.makeFunc fn first cap).run Tryz.prog w = .ok (.func fn first cap) w := fun _ _ _ _ => rfl
  have h0 : RdX w0 w _ rb S 30 #[.int .i64 0, .int .i64 0, .int .i64 0] #[.int .i64 0, .int .i64 0, .int .i64 0] := RdX.new h 30 #[.int .i64 0, .int .i64 0, .int .i64 0]
  have HC : Hid (hard10 S = (⟨(int9 S).1, (int9 (int9 S).2).1, (int9 (int9 (int9 S).2).2).1⟩, (int9 (int9 (int9 S).2).2).2)) := hard10_is S
  generalize hard10 S = R at *
  have hrl := h.lt
  clear h
  revert h0 HC
  generalize S = S0
  intro h0 HC
  go_enter Tryz.func218, Tryz.ntmps218
  have ki0 := h0.r.int
  go_wp2_with fail
  refine ki0.mono ?_
  rintro _ y0 ⟨rfl, hl0⟩
  have h1 := h0.left hl0
  clear h0 ki0 hl0
  generalize int9 S0 = A at *
  obtain ⟨z0, S1⟩ := A
  dsimp only at h1 HC
  have ki1 := h1.r.int
  go_wp2_with fail
  refine ki1.mono ?_
  rintro _ y1 ⟨rfl, hl1⟩
  have h2 := h1.left hl1
  clear h1 ki1 hl1
  generalize int9 S1 = A at *
  obtain ⟨z1, S2⟩ := A
  dsimp only at h2 HC
  have ki2 := h2.r.int
  go_wp2_with fail
  refine ki2.mono ?_
  rintro _ y2 ⟨rfl, hl2⟩
  have h3 := h2.left hl2
  clear h2 ki2 hl2
  generalize int9 S2 = A at *
  obtain ⟨z2, S3⟩ := A
  dsimp only at h3 HC

  have c0 := box_cell h3.box 0
  have c1 := box_cell h3.box 1
  have c2 := box_cell h3.box 2
  have fb := frozen9 h3.box
  have hlb := box_lt h3.box
  go_upto_region 4 with fail
  have h4 : RdX w0 w _ rb S3 30 #[.int .i64 z0, .int .i64 z1, .int .i64 z2] #[.int .i64 0, .int .i64 0, .int .i64 0] := ((h3.put 0 (.int .i64 z0) (by show 0 < 3; omega)).put 1 (.int .i64 z1) (by show 1 < 3; omega)).put 2 (.int .i64 z2) (by show 2 < 3; omega)
  clear h3 c0 c1 c2 fb hlb
  generalize ((y2.setCell ⟨w.heap.size + 1, 0, none⟩ (.int .i64 z0)).setCell ⟨w.heap.size + 1, 1, none⟩ (.int .i64 z1)).setCell ⟨w.heap.size + 1, 2, none⟩ (.int .i64 z2) = X4 at *
  have c0 := box_cell h4.box 0
  have c1 := box_cell h4.box 1
  have c2 := box_cell h4.box 2
  have d0 := box_cell h4.res 0
  have d1 := box_cell h4.res 1
  have d2 := box_cell h4.res 2
  have fb := frozen9 h4.res
  have hlb := box_lt h4.box
  have hlr := box_lt h4.res
  go_wp2
  have hF := fillH (b := w.heap.size) (x0 := ⟨0, 0, 0⟩) h4.res z0 z1 z2
  have hR9 := ((((((h4.r).cell (b := w.heap.size) (by omega) (by omega) 0 (.int .i64 z0))).cell (b := w.heap.size) (by omega) (by omega) 1 (.int .i64 z1))).cell (b := w.heap.size) (by omega) (by omega) 2 (.int .i64 z2))
  have hG9 := (grown_new (b := w.heap.size) (grown_new (b := w.heap.size) (grown_new (b := w.heap.size) h4.g (by omega) 0 (.int .i64 z0)) (by omega) 1 (.int .i64 z1)) (by omega) 2 (.int .i64 z2))
  refine bodyPost_ret (ret_one rfl _ _ w.heap.size _ _ _ _ rfl hF Tryz.underlying30 rfl (by kernel_rfl)) rfl ⟨?_, ?_, hG9⟩
  · rw [HC.out]
  · rw [HC.out]; exact hR9

theorem strOf_size (l : List Int) : (strOfNums l).size = l.length := by
  show (strOfNums l).data.size = l.length
  rw [← Array.length_toList, strOfNums_data, List.length_map]
theorem txt9_size (S : St) : (txt9 S).1.size ≤ S.1.length := by
  unfold txt9
  dsimp only
  rw [strOf_size]
  exact (getTextS_bd S.1).2
theorem txt9_len (S : St) : (txt9 S).2.1.length ≤ S.1.length := loseS_length _ _ _
theorem int9_len (S : St) : (int9 S).2.1.length ≤ S.1.length := loseS_length _ _ _
theorem readC9_fits (xs : List Int) (h : xs.length ≤ 140737488351232) : Fits9 (readC9 xs).1 := by
  unfold readC9
  split
  · unfold rdC9
    dsimp only
    have a0 := int9_len (xs, false)
    have a1 := int9_len (int9 (xs, false)).2
    have a2 := int9_len (int9 (int9 (xs, false)).2).2
    have a3 := int9_len (int9 (int9 (int9 (xs, false)).2).2).2
    have b0 := txt9_size (int9 (int9 (int9 (int9 (xs, false)).2).2).2).2
    have a4 := txt9_len (int9 (int9 (int9 (int9 (xs, false)).2).2).2).2
    have b1 := txt9_size (txt9 (int9 (int9 (int9 (int9 (xs, false)).2).2).2).2).2
    have a5 := txt9_len (txt9 (int9 (int9 (int9 (int9 (xs, false)).2).2).2).2).2
    have b2 := txt9_size (txt9 (txt9 (int9 (int9 (int9 (int9 (xs, false)).2).2).2).2).2).2
    have a6 := txt9_len (txt9 (txt9 (int9 (int9 (int9 (int9 (xs, false)).2).2).2).2).2).2
    have b3 := txt9_size (txt9 (txt9 (txt9 (int9 (int9 (int9 (int9 (xs, false)).2).2).2).2).2).2).2
    dsimp only at a0
    exact ⟨by dsimp only; omega, by dsimp only; omega, by dsimp only; omega, by dsimp only; omega, int9_in _, int9_in _, int9_in _, int9_in _⟩
  · exact fits_zeroC

set_option maxRecDepth 100000 in
set_option maxHeartbeats 4000000 in
theorem entryR_any (w0 w : World) (rb : Nat) (S : St) (h : Rdr w0 w rb S) :
    Calls Tryz.prog 216 #[.pointer (some ⟨rb, 0, none⟩)] w fun e w' => ∃ X : EntV, e = .returned (.agg X.arr) ∧ X.e = (pent10 S).1 ∧ OwnsF w' w.heap.size X.f ∧ Fits9 X.c ∧ Left10 w0 w rb (pent10 S).2 w' := by
  have hmf : ∀ (fn : Fn) (first cap : Array Value) (w : World), (Instr.makeFunc fn first cap).run Tryz.prog w = .ok (.func fn first cap) w := fun _ _ _ _ => rfl
  have h0 : RdX w0 w _ rb S 28 #[.int .i64 0, .int .i64 0, .int .i64 0, .int .i64 0, .int .i64 0, .int .i64 0, .string em9, .string em9, .string em9, .string em9, .int .i64 0, .slice none 0 0, .slice none 0 0] #[.int .i64 0, .int .i64 0, .int .i64 0, .int .i64 0, .int .i64 0, .int .i64 0, .string em9, .string em9, .string em9, .string em9, .int .i64 0, .slice none 0 0, .slice none 0 0] := RdX.new h 28 #[.int .i64 0, .int .i64 0, .int .i64 0, .int .i64 0, .int .i64 0, .int .i64 0, .string em9, .string em9, .string em9, .string em9, .int .i64 0, .slice none 0 0, .slice none 0 0]
  have HC : Hid (pent10 S = ptail10 (int9 S).1 (int9 (int9 S).2).1 (int9 (int9 (int9 S).2).2).1 (int9 (int9 (int9 S).2).2).2) := pent10_is S
  generalize pent10 S = R at *
  have hrl := h.lt
  clear h
  revert h0 HC
  generalize S = S0
  intro h0 HC
  go_enter Tryz.func216, Tryz.ntmps216
  have ki0 := h0.r.int
  go_wp2_with fail
  refine ki0.mono ?_
  rintro _ y0 ⟨rfl, hl0⟩
  have h1 := h0.left hl0
  clear h0 ki0 hl0
  generalize int9 S0 = A at *
  obtain ⟨z0, S1⟩ := A
  dsimp only at h1 HC
  have ki1 := h1.r.int
  go_wp2_with fail
  refine ki1.mono ?_
  rintro _ y1 ⟨rfl, hl1⟩
  have h2 := h1.left hl1
  clear h1 ki1 hl1
  generalize int9 S1 = A at *
  obtain ⟨z1, S2⟩ := A
  dsimp only at h2 HC
  have ki2 := h2.r.int
  go_wp2_with fail
  refine ki2.mono ?_
  rintro _ y2 ⟨rfl, hl2⟩
  have h3 := h2.left hl2
  clear h2 ki2 hl2
  generalize int9 S2 = A at *
  obtain ⟨z2, S3⟩ := A
  dsimp only at h3 HC

  have c0 := box_cell h3.box 0
  have c1 := box_cell h3.box 1
  have c2 := box_cell h3.box 2
  have fb := frozen9 h3.box
  have hlb := box_lt h3.box
  go_upto_region 4 with fail
  have h4 : RdX w0 w _ rb S3 28 #[.int .i64 z0, .int .i64 z1, .int .i64 z2, .int .i64 0, .int .i64 0, .int .i64 0, .string em9, .string em9, .string em9, .string em9, .int .i64 0, .slice none 0 0, .slice none 0 0] #[.int .i64 0, .int .i64 0, .int .i64 0, .int .i64 0, .int .i64 0, .int .i64 0, .string em9, .string em9, .string em9, .string em9, .int .i64 0, .slice none 0 0, .slice none 0 0] := ((h3.put 0 (.int .i64 z0) (by show 0 < 13; omega)).put 1 (.int .i64 z1) (by show 1 < 13; omega)).put 2 (.int .i64 z2) (by show 2 < 13; omega)
  clear h3 c0 c1 c2 fb hlb
  generalize ((y2.setCell ⟨w.heap.size + 1, 0, none⟩ (.int .i64 z0)).setCell ⟨w.heap.size + 1, 1, none⟩ (.int .i64 z1)).setCell ⟨w.heap.size + 1, 2, none⟩ (.int .i64 z2) = X4 at *
  have c2 := box_cell h4.box 2
  have hlb := box_lt h4.box
  have hws := h4.g.size
  by_cases e2 : z2 = 2
  · have HT : Hid (R = (⟨z0, z1, 2, (readC9 (byt10 S3).1).1, noF10⟩, (byt10 S3).2)) := by
      rw [Hid, HC.out, e2, ptail10_cmd]
    have kc := cmdR_any w0 X4 rb S3 h4.r
    have HFit : Hid (Fits9 (readC9 (byt10 S3).1).1) := readC9_fits _ (by have := byt10_len S3; have := h4.r.len; omega)
    generalize byt10 S3 = A at *
    obtain ⟨xs, S4⟩ := A
    dsimp only at kc HT HFit
    generalize (readC9 xs).1 = cc at *
    obtain ⟨ck, cs, cq, ckey, cold, cval, cunt, clim⟩ := cc
    subst e2
    unfold Cmd9.arr at kc
    dsimp only at kc
    clear HC
    go_wp2_with fail
    refine kc.mono ?_
    rintro _ y5 ⟨rfl, hl5⟩
    have h5 := h4.left hl5
    clear kc h4 hl5 c2 hlb
    have c3 := box_cell h5.box 3
    have c4 := box_cell h5.box 4
    have c5 := box_cell h5.box 5
    have c6 := box_cell h5.box 6
    have c7 := box_cell h5.box 7
    have c8 := box_cell h5.box 8
    have c9 := box_cell h5.box 9
    have c10 := box_cell h5.box 10
    have fb := frozen9 h5.box
    have hlb := box_lt h5.box
    go_upto_region 9 with fail
    have hx : RdX w0 w _ rb S4 28 #[.int .i64 z0, .int .i64 z1, .int .i64 2, .int .i64 ck, .int .i64 cs, .int .i64 cq, .string ckey, .string cold, .string cval, .string cunt, .int .i64 clim, .slice none 0 0, .slice none 0 0] #[.int .i64 0, .int .i64 0, .int .i64 0, .int .i64 0, .int .i64 0, .int .i64 0, .string em9, .string em9, .string em9, .string em9, .int .i64 0, .slice none 0 0, .slice none 0 0] := (((((((h5.put 3 (.int .i64 ck) (by show 3 < 13; omega)).put 4 (.int .i64 cs) (by show 4 < 13; omega)).put 5 (.int .i64 cq) (by show 5 < 13; omega)).put 6 (.string ckey) (by show 6 < 13; omega)).put 7 (.string cold) (by show 7 < 13; omega)).put 8 (.string cval) (by show 8 < 13; omega)).put 9 (.string cunt) (by show 9 < 13; omega)).put 10 (.int .i64 clim) (by show 10 < 13; omega)
    clear h5 c3 c4 c5 c6 c7 c8 c9 c10 fb hlb
    generalize (((((((y5.setCell ⟨w.heap.size + 1, 3, none⟩ (.int .i64 ck)).setCell ⟨w.heap.size + 1, 4, none⟩ (.int .i64 cs)).setCell ⟨w.heap.size + 1, 5, none⟩ (.int .i64 cq)).setCell ⟨w.heap.size + 1, 6, none⟩ (.string ckey)).setCell ⟨w.heap.size + 1, 7, none⟩ (.string cold)).setCell ⟨w.heap.size + 1, 8, none⟩ (.string cval)).setCell ⟨w.heap.size + 1, 9, none⟩ (.string cunt)).setCell ⟨w.heap.size + 1, 10, none⟩ (.int .i64 clim) = X6 at *
    have hO := OwnsF.nil X6 (w.heap.size + 1)
    have c0 := box_cell hx.box 0
    have c1 := box_cell hx.box 1
    have c2 := box_cell hx.box 2
    have c3 := box_cell hx.box 3
    have c4 := box_cell hx.box 4
    have c5 := box_cell hx.box 5
    have c6 := box_cell hx.box 6
    have c7 := box_cell hx.box 7
    have c8 := box_cell hx.box 8
    have c9 := box_cell hx.box 9
    have c10 := box_cell hx.box 10
    have c11 := box_cell hx.box 11
    have c12 := box_cell hx.box 12
    have d0 := box_cell hx.res 0
    have d1 := box_cell hx.res 1
    have d2 := box_cell hx.res 2
    have d3 := box_cell hx.res 3
    have d4 := box_cell hx.res 4
    have d5 := box_cell hx.res 5
    have d6 := box_cell hx.res 6
    have d7 := box_cell hx.res 7
    have d8 := box_cell hx.res 8
    have d9 := box_cell hx.res 9
    have d10 := box_cell hx.res 10
    have d11 := box_cell hx.res 11
    have d12 := box_cell hx.res 12
    have fb := frozen9 hx.res
    have hlb := box_lt hx.box
    have hlr := box_lt hx.res
    go_wp2
    have hF := fillE (b := w.heap.size) (x0 := noEV) hx.res z0 z1 2 ck cs cq ckey cold cval cunt clim none 0 0 none 0 0 noF10
    have hR9 := ((((((((((((((((((((((((((hx.r).cell (b := w.heap.size) (by omega) (by omega) 0 (.int .i64 z0))).cell (b := w.heap.size) (by omega) (by omega) 1 (.int .i64 z1))).cell (b := w.heap.size) (by omega) (by omega) 2 (.int .i64 2))).cell (b := w.heap.size) (by omega) (by omega) 3 (.int .i64 ck))).cell (b := w.heap.size) (by omega) (by omega) 4 (.int .i64 cs))).cell (b := w.heap.size) (by omega) (by omega) 5 (.int .i64 cq))).cell (b := w.heap.size) (by omega) (by omega) 6 (.string ckey))).cell (b := w.heap.size) (by omega) (by omega) 7 (.string cold))).cell (b := w.heap.size) (by omega) (by omega) 8 (.string cval))).cell (b := w.heap.size) (by omega) (by omega) 9 (.string cunt))).cell (b := w.heap.size) (by omega) (by omega) 10 (.int .i64 clim))).cell (b := w.heap.size) (by omega) (by omega) 11 (.slice none 0 0))).cell (b := w.heap.size) (by omega) (by omega) 12 (.slice none 0 0))
    have hG9 := (grown_new (b := w.heap.size) (grown_new (b := w.heap.size) (grown_new (b := w.heap.size) (grown_new (b := w.heap.size) (grown_new (b := w.heap.size) (grown_new (b := w.heap.size) (grown_new (b := w.heap.size) (grown_new (b := w.heap.size) (grown_new (b := w.heap.size) (grown_new (b := w.heap.size) (grown_new (b := w.heap.size) (grown_new (b := w.heap.size) (grown_new (b := w.heap.size) hx.g (by omega) 0 (.int .i64 z0)) (by omega) 1 (.int .i64 z1)) (by omega) 2 (.int .i64 2)) (by omega) 3 (.int .i64 ck)) (by omega) 4 (.int .i64 cs)) (by omega) 5 (.int .i64 cq)) (by omega) 6 (.string ckey)) (by omega) 7 (.string cold)) (by omega) 8 (.string cval)) (by omega) 9 (.string cunt)) (by omega) 10 (.int .i64 clim)) (by omega) 11 (.slice none 0 0)) (by omega) 12 (.slice none 0 0))
    have hO9 := ((((((((((((((((((((((((((hO).cell (b := w.heap.size) (by omega) 0 (.int .i64 z0))).cell (b := w.heap.size) (by omega) 1 (.int .i64 z1))).cell (b := w.heap.size) (by omega) 2 (.int .i64 2))).cell (b := w.heap.size) (by omega) 3 (.int .i64 ck))).cell (b := w.heap.size) (by omega) 4 (.int .i64 cs))).cell (b := w.heap.size) (by omega) 5 (.int .i64 cq))).cell (b := w.heap.size) (by omega) 6 (.string ckey))).cell (b := w.heap.size) (by omega) 7 (.string cold))).cell (b := w.heap.size) (by omega) 8 (.string cval))).cell (b := w.heap.size) (by omega) 9 (.string cunt))).cell (b := w.heap.size) (by omega) 10 (.int .i64 clim))).cell (b := w.heap.size) (by omega) 11 (.slice none 0 0))).cell (b := w.heap.size) (by omega) 12 (.slice none 0 0))
    
    refine bodyPost_ret (ret_one rfl _ _ w.heap.size _ _ _ _ rfl hF Tryz.underlying28 rfl (by kernel_rfl)) rfl ⟨⟨z0, z1, 2, ⟨ck, cs, cq, ckey, cold, cval, cunt, clim⟩, noFV⟩, rfl, ?_, hO9.mono (by omega), HFit.out, ?_, hG9⟩
    · rw [HT.out]; rfl
    · rw [HT.out]; exact hR9
  have e2' : (z2 == 2) = false := by simpa using e2
  by_cases e3 : z2 = 3
  · have HT : Hid (R = (⟨z0, z1, 3, zeroC9, (conf10 9 S3).1⟩, (conf10 9 S3).2)) := by
      rw [Hid, HC.out, e3, ptail10_conf]
    have kc := confR_any w0 X4 rb S3 h4.r
    generalize conf10 9 S3 = A at *
    obtain ⟨ff, S4⟩ := A
    dsimp only at kc HT
    subst e3
    clear HC e2 e2'
    go_wp2_with fail
    refine kc.mono ?_
    rintro _ y5 ⟨X, rfl, hO5, hXf, hl5⟩
    have h5 := h4.left hl5
    have HXf : Hid (X.f = ff) := hXf
    have hbl4 := box_lt h4.box
    clear kc h4 hl5 c2 hlb hXf
    obtain ⟨⟨p, n, c⟩, ⟨q, m, d⟩, f⟩ := X
    unfold ConfV.arr
    dsimp only
    have c11 := box_cell h5.box 11
    have c12 := box_cell h5.box 12
    have fb := frozen9 h5.box
    have hlb := box_lt h5.box
    go_upto_region 9 with fail
    have hx : RdX w0 w _ rb S4 28 #[.int .i64 z0, .int .i64 z1, .int .i64 3, .int .i64 0, .int .i64 0, .int .i64 0, .string em9, .string em9, .string em9, .string em9, .int .i64 0, .slice p n c, .slice q m d] #[.int .i64 0, .int .i64 0, .int .i64 0, .int .i64 0, .int .i64 0, .int .i64 0, .string em9, .string em9, .string em9, .string em9, .int .i64 0, .slice none 0 0, .slice none 0 0] := (h5.put 11 (.slice p n c) (by show 11 < 13; omega)).put 12 (.slice q m d) (by show 12 < 13; omega)
    have hO := (hO5.cell (b := w.heap.size + 1) (by omega) 11 (.slice p n c)).cell (b := w.heap.size + 1) (by omega) 12 (.slice q m d)
    clear h5 hO5 c11 c12 fb hlb
    generalize (y5.setCell ⟨w.heap.size + 1, 11, none⟩ (.slice p n c)).setCell ⟨w.heap.size + 1, 12, none⟩ (.slice q m d) = X6 at *
    have c0 := box_cell hx.box 0
    have c1 := box_cell hx.box 1
    have c2 := box_cell hx.box 2
    have c3 := box_cell hx.box 3
    have c4 := box_cell hx.box 4
    have c5 := box_cell hx.box 5
    have c6 := box_cell hx.box 6
    have c7 := box_cell hx.box 7
    have c8 := box_cell hx.box 8
    have c9 := box_cell hx.box 9
    have c10 := box_cell hx.box 10
    have c11 := box_cell hx.box 11
    have c12 := box_cell hx.box 12
    have d0 := box_cell hx.res 0
    have d1 := box_cell hx.res 1
    have d2 := box_cell hx.res 2
    have d3 := box_cell hx.res 3
    have d4 := box_cell hx.res 4
    have d5 := box_cell hx.res 5
    have d6 := box_cell hx.res 6
    have d7 := box_cell hx.res 7
    have d8 := box_cell hx.res 8
    have d9 := box_cell hx.res 9
    have d10 := box_cell hx.res 10
    have d11 := box_cell hx.res 11
    have d12 := box_cell hx.res 12
    have fb := frozen9 hx.res
    have hlb := box_lt hx.box
    have hlr := box_lt hx.res
    go_wp2
    have hF := fillE (b := w.heap.size) (x0 := noEV) hx.res z0 z1 3 0 0 0 em9 em9 em9 em9 0 p n c q m d f
    have hR9 := ((((((((((((((((((((((((((hx.r).cell (b := w.heap.size) (by omega) (by omega) 0 (.int .i64 z0))).cell (b := w.heap.size) (by omega) (by omega) 1 (.int .i64 z1))).cell (b := w.heap.size) (by omega) (by omega) 2 (.int .i64 3))).cell (b := w.heap.size) (by omega) (by omega) 3 (.int .i64 0))).cell (b := w.heap.size) (by omega) (by omega) 4 (.int .i64 0))).cell (b := w.heap.size) (by omega) (by omega) 5 (.int .i64 0))).cell (b := w.heap.size) (by omega) (by omega) 6 (.string em9))).cell (b := w.heap.size) (by omega) (by omega) 7 (.string em9))).cell (b := w.heap.size) (by omega) (by omega) 8 (.string em9))).cell (b := w.heap.size) (by omega) (by omega) 9 (.string em9))).cell (b := w.heap.size) (by omega) (by omega) 10 (.int .i64 0))).cell (b := w.heap.size) (by omega) (by omega) 11 (.slice p n c))).cell (b := w.heap.size) (by omega) (by omega) 12 (.slice q m d))
    have hG9 := (grown_new (b := w.heap.size) (grown_new (b := w.heap.size) (grown_new (b := w.heap.size) (grown_new (b := w.heap.size) (grown_new (b := w.heap.size) (grown_new (b := w.heap.size) (grown_new (b := w.heap.size) (grown_new (b := w.heap.size) (grown_new (b := w.heap.size) (grown_new (b := w.heap.size) (grown_new (b := w.heap.size) (grown_new (b := w.heap.size) (grown_new (b := w.heap.size) hx.g (by omega) 0 (.int .i64 z0)) (by omega) 1 (.int .i64 z1)) (by omega) 2 (.int .i64 3)) (by omega) 3 (.int .i64 0)) (by omega) 4 (.int .i64 0)) (by omega) 5 (.int .i64 0)) (by omega) 6 (.string em9)) (by omega) 7 (.string em9)) (by omega) 8 (.string em9)) (by omega) 9 (.string em9)) (by omega) 10 (.int .i64 0)) (by omega) 11 (.slice p n c)) (by omega) 12 (.slice q m d))
    have hO9 := ((((((((((((((((((((((((((hO).cell (b := w.heap.size) (by omega) 0 (.int .i64 z0))).cell (b := w.heap.size) (by omega) 1 (.int .i64 z1))).cell (b := w.heap.size) (by omega) 2 (.int .i64 3))).cell (b := w.heap.size) (by omega) 3 (.int .i64 0))).cell (b := w.heap.size) (by omega) 4 (.int .i64 0))).cell (b := w.heap.size) (by omega) 5 (.int .i64 0))).cell (b := w.heap.size) (by omega) 6 (.string em9))).cell (b := w.heap.size) (by omega) 7 (.string em9))).cell (b := w.heap.size) (by omega) 8 (.string em9))).cell (b := w.heap.size) (by omega) 9 (.string em9))).cell (b := w.heap.size) (by omega) 10 (.int .i64 0))).cell (b := w.heap.size) (by omega) 11 (.slice p n c))).cell (b := w.heap.size) (by omega) 12 (.slice q m d))
    
    refine bodyPost_ret (ret_one rfl _ _ w.heap.size _ _ _ _ rfl hF Tryz.underlying28 rfl (by kernel_rfl)) rfl ⟨⟨z0, z1, 3, ⟨0, 0, 0, em9, em9, em9, em9, 0⟩, ⟨⟨p, n, c⟩, ⟨q, m, d⟩, f⟩⟩, rfl, ?_, hO9.mono (by omega), fits_zeroC, ?_, hG9⟩
    · rw [HT.out, ← HXf.out]; rfl
    · rw [HT.out]; exact hR9
  have e3' : (z2 == 3) = false := by simpa using e3
  have HT : Hid (R = (⟨z0, z1, z2, zeroC9, noF10⟩, S3)) := by
    rw [Hid, HC.out, ptail10_else _ _ _ _ e2 e3]
  clear HC e2 e3 c2 hlb
  have hx := h4
  have c2 := box_cell hx.box 2
  have hlb := box_lt hx.box
  go_upto_region 9 with fail
  have hO := OwnsF.nil X4 (w.heap.size + 1)
  clear c2 hlb h4
  have c0 := box_cell hx.box 0
  have c1 := box_cell hx.box 1
  have c2 := box_cell hx.box 2
  have c3 := box_cell hx.box 3
  have c4 := box_cell hx.box 4
  have c5 := box_cell hx.box 5
  have c6 := box_cell hx.box 6
  have c7 := box_cell hx.box 7
  have c8 := box_cell hx.box 8
  have c9 := box_cell hx.box 9
  have c10 := box_cell hx.box 10
  have c11 := box_cell hx.box 11
  have c12 := box_cell hx.box 12
  have d0 := box_cell hx.res 0
  have d1 := box_cell hx.res 1
  have d2 := box_cell hx.res 2
  have d3 := box_cell hx.res 3
  have d4 := box_cell hx.res 4
  have d5 := box_cell hx.res 5
  have d6 := box_cell hx.res 6
  have d7 := box_cell hx.res 7
  have d8 := box_cell hx.res 8
  have d9 := box_cell hx.res 9
  have d10 := box_cell hx.res 10
  have d11 := box_cell hx.res 11
  have d12 := box_cell hx.res 12
  have fb := frozen9 hx.res
  have hlb := box_lt hx.box
  have hlr := box_lt hx.res
  go_wp2
  have hF := fillE (b := w.heap.size) (x0 := noEV) hx.res z0 z1 z2 0 0 0 em9 em9 em9 em9 0 none 0 0 none 0 0 noF10
  have hR9 := ((((((((((((((((((((((((((hx.r).cell (b := w.heap.size) (by omega) (by omega) 0 (.int .i64 z0))).cell (b := w.heap.size) (by omega) (by omega) 1 (.int .i64 z1))).cell (b := w.heap.size) (by omega) (by omega) 2 (.int .i64 z2))).cell (b := w.heap.size) (by omega) (by omega) 3 (.int .i64 0))).cell (b := w.heap.size) (by omega) (by omega) 4 (.int .i64 0))).cell (b := w.heap.size) (by omega) (by omega) 5 (.int .i64 0))).cell (b := w.heap.size) (by omega) (by omega) 6 (.string em9))).cell (b := w.heap.size) (by omega) (by omega) 7 (.string em9))).cell (b := w.heap.size) (by omega) (by omega) 8 (.string em9))).cell (b := w.heap.size) (by omega) (by omega) 9 (.string em9))).cell (b := w.heap.size) (by omega) (by omega) 10 (.int .i64 0))).cell (b := w.heap.size) (by omega) (by omega) 11 (.slice none 0 0))).cell (b := w.heap.size) (by omega) (by omega) 12 (.slice none 0 0))
  have hG9 := (grown_new (b := w.heap.size) (grown_new (b := w.heap.size) (grown_new (b := w.heap.size) (grown_new (b := w.heap.size) (grown_new (b := w.heap.size) (grown_new (b := w.heap.size) (grown_new (b := w.heap.size) (grown_new (b := w.heap.size) (grown_new (b := w.heap.size) (grown_new (b := w.heap.size) (grown_new (b := w.heap.size) (grown_new (b := w.heap.size) (grown_new (b := w.heap.size) hx.g (by omega) 0 (.int .i64 z0)) (by omega) 1 (.int .i64 z1)) (by omega) 2 (.int .i64 z2)) (by omega) 3 (.int .i64 0)) (by omega) 4 (.int .i64 0)) (by omega) 5 (.int .i64 0)) (by omega) 6 (.string em9)) (by omega) 7 (.string em9)) (by omega) 8 (.string em9)) (by omega) 9 (.string em9)) (by omega) 10 (.int .i64 0)) (by omega) 11 (.slice none 0 0)) (by omega) 12 (.slice none 0 0))
  have hO9 := ((((((((((((((((((((((((((hO).cell (b := w.heap.size) (by omega) 0 (.int .i64 z0))).cell (b := w.heap.size) (by omega) 1 (.int .i64 z1))).cell (b := w.heap.size) (by omega) 2 (.int .i64 z2))).cell (b := w.heap.size) (by omega) 3 (.int .i64 0))).cell (b := w.heap.size) (by omega) 4 (.int .i64 0))).cell (b := w.heap.size) (by omega) 5 (.int .i64 0))).cell (b := w.heap.size) (by omega) 6 (.string em9))).cell (b := w.heap.size) (by omega) 7 (.string em9))).cell (b := w.heap.size) (by omega) 8 (.string em9))).cell (b := w.heap.size) (by omega) 9 (.string em9))).cell (b := w.heap.size) (by omega) 10 (.int .i64 0))).cell (b := w.heap.size) (by omega) 11 (.slice none 0 0))).cell (b := w.heap.size) (by omega) 12 (.slice none 0 0))
  
  refine bodyPost_ret (ret_one rfl _ _ w.heap.size _ _ _ _ rfl hF Tryz.underlying28 rfl (by kernel_rfl)) rfl ⟨⟨z0, z1, z2, ⟨0, 0, 0, em9, em9, em9, em9, 0⟩, noFV⟩, rfl, ?_, hO9.mono (by omega), fits_zeroC, ?_, hG9⟩
  · rw [HT.out]; rfl
  · rw [HT.out]; exact hR9
end Go.Proofs.YtkbbhllchombdaaGreatDoor
