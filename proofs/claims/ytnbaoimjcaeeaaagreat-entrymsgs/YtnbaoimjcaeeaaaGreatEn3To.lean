import Derived.Test.YtnbaoimjcaeeaaaGreatEn2To
import Derived.Deep.DeepCutAuto
/-
  Contracts: what reads of entry tell: conf, command, hard, entry; goodHard.
-/
namespace Go.Proofs.YtnbaoimjcaeeaaaGreat
open Go.RowKit Go.Shelf

theorem ConfAt.put {w : World} {b : Nat} {x x' : ConfV} (h : ConfAt w b x) (i : Nat) (v : Value) (hi : i < 2) (hc : x'.arr = x.arr.set i v (by show i < 2; exact hi)) : ConfAt (w.setCell ⟨b, i, none⟩ v) b x' := by
  unfold ConfAt
  rw [hc]
  exact set_block9 h i v _
theorem fillF {w : World} {b : Nat} {x0 : ConfV} (h : ConfAt w b x0) (p : Option Addr) (n : Nat) (c : Nat) (q : Option Addr) (m : Nat) (d : Nat) (f : Conf10) : ConfAt ((w.setCell ⟨b, 0, none⟩ (.slice p n c)).setCell ⟨b, 1, none⟩ (.slice q m d)) b ⟨⟨p, n, c⟩, ⟨q, m, d⟩, f⟩ := by
  obtain ⟨⟨p0_, n0_, c0_⟩, ⟨q0_, m0_, d0_⟩, f0_⟩ := x0
  exact ((h.put (x' := ⟨⟨p, n, c⟩, ⟨q0_, m0_, d0_⟩, f⟩) 0 _ (by decide) rfl).put (x' := ⟨⟨p, n, c⟩, ⟨q, m, d⟩, f⟩) 1 _ (by decide) rfl)

theorem EntAt.put {w : World} {b : Nat} {x x' : EntV} (h : EntAt w b x) (i : Nat) (v : Value) (hi : i < 13) (hc : x'.arr = x.arr.set i v (by show i < 13; exact hi)) : EntAt (w.setCell ⟨b, i, none⟩ v) b x' := by
  unfold EntAt
  rw [hc]
  exact set_block9 h i v _
theorem fillE {w : World} {b : Nat} {x0 : EntV} (h : EntAt w b x0) (i : Int) (t : Int) (k : Int) (ck : Int) (cs : Int) (cq : Int) (ckey : ByteArray) (cold : ByteArray) (cval : ByteArray) (cunt : ByteArray) (clim : Int) (p : Option Addr) (n : Nat) (c : Nat) (q : Option Addr) (m : Nat) (d : Nat) (f : Conf10) : EntAt (((((((((((((w.setCell ⟨b, 0, none⟩ (.int .i64 i)).setCell ⟨b, 1, none⟩ (.int .i64 t)).setCell ⟨b, 2, none⟩ (.int .i64 k)).setCell ⟨b, 3, none⟩ (.int .i64 ck)).setCell ⟨b, 4, none⟩ (.int .i64 cs)).setCell ⟨b, 5, none⟩ (.int .i64 cq)).setCell ⟨b, 6, none⟩ (.string ckey)).setCell ⟨b, 7, none⟩ (.string cold)).setCell ⟨b, 8, none⟩ (.string cval)).setCell ⟨b, 9, none⟩ (.string cunt)).setCell ⟨b, 10, none⟩ (.int .i64 clim)).setCell ⟨b, 11, none⟩ (.slice p n c)).setCell ⟨b, 12, none⟩ (.slice q m d)) b ⟨i, t, k, ⟨ck, cs, cq, ckey, cold, cval, cunt, clim⟩, ⟨⟨p, n, c⟩, ⟨q, m, d⟩, f⟩⟩ := by
  obtain ⟨i0_, t0_, k0_, ⟨ck0_, cs0_, cq0_, ckey0_, cold0_, cval0_, cunt0_, clim0_⟩, ⟨⟨p0_, n0_, c0_⟩, ⟨q0_, m0_, d0_⟩, f0_⟩⟩ := x0
  exact (((((((((((((h.put (x' := ⟨i, t0_, k0_, ⟨ck0_, cs0_, cq0_, ckey0_, cold0_, cval0_, cunt0_, clim0_⟩, ⟨⟨p0_, n0_, c0_⟩, ⟨q0_, m0_, d0_⟩, f⟩⟩) 0 _ (by decide) rfl).put (x' := ⟨i, t, k0_, ⟨ck0_, cs0_, cq0_, ckey0_, cold0_, cval0_, cunt0_, clim0_⟩, ⟨⟨p0_, n0_, c0_⟩, ⟨q0_, m0_, d0_⟩, f⟩⟩) 1 _ (by decide) rfl).put (x' := ⟨i, t, k, ⟨ck0_, cs0_, cq0_, ckey0_, cold0_, cval0_, cunt0_, clim0_⟩, ⟨⟨p0_, n0_, c0_⟩, ⟨q0_, m0_, d0_⟩, f⟩⟩) 2 _ (by decide) rfl).put (x' := ⟨i, t, k, ⟨ck, cs0_, cq0_, ckey0_, cold0_, cval0_, cunt0_, clim0_⟩, ⟨⟨p0_, n0_, c0_⟩, ⟨q0_, m0_, d0_⟩, f⟩⟩) 3 _ (by decide) rfl).put (x' := ⟨i, t, k, ⟨ck, cs, cq0_, ckey0_, cold0_, cval0_, cunt0_, clim0_⟩, ⟨⟨p0_, n0_, c0_⟩, ⟨q0_, m0_, d0_⟩, f⟩⟩) 4 _ (by decide) rfl).put (x' := ⟨i, t, k, ⟨ck, cs, cq, ckey0_, cold0_, cval0_, cunt0_, clim0_⟩, ⟨⟨p0_, n0_, c0_⟩, ⟨q0_, m0_, d0_⟩, f⟩⟩) 5 _ (by decide) rfl).put (x' := ⟨i, t, k, ⟨ck, cs, cq, ckey, cold0_, cval0_, cunt0_, clim0_⟩, ⟨⟨p0_, n0_, c0_⟩, ⟨q0_, m0_, d0_⟩, f⟩⟩) 6 _ (by decide) rfl).put (x' := ⟨i, t, k, ⟨ck, cs, cq, ckey, cold, cval0_, cunt0_, clim0_⟩, ⟨⟨p0_, n0_, c0_⟩, ⟨q0_, m0_, d0_⟩, f⟩⟩) 7 _ (by decide) rfl).put (x' := ⟨i, t, k, ⟨ck, cs, cq, ckey, cold, cval, cunt0_, clim0_⟩, ⟨⟨p0_, n0_, c0_⟩, ⟨q0_, m0_, d0_⟩, f⟩⟩) 8 _ (by decide) rfl).put (x' := ⟨i, t, k, ⟨ck, cs, cq, ckey, cold, cval, cunt, clim0_⟩, ⟨⟨p0_, n0_, c0_⟩, ⟨q0_, m0_, d0_⟩, f⟩⟩) 9 _ (by decide) rfl).put (x' := ⟨i, t, k, ⟨ck, cs, cq, ckey, cold, cval, cunt, clim⟩, ⟨⟨p0_, n0_, c0_⟩, ⟨q0_, m0_, d0_⟩, f⟩⟩) 10 _ (by decide) rfl).put (x' := ⟨i, t, k, ⟨ck, cs, cq, ckey, cold, cval, cunt, clim⟩, ⟨⟨p, n, c⟩, ⟨q0_, m0_, d0_⟩, f⟩⟩) 11 _ (by decide) rfl).put (x' := ⟨i, t, k, ⟨ck, cs, cq, ckey, cold, cval, cunt, clim⟩, ⟨⟨p, n, c⟩, ⟨q, m, d⟩, f⟩⟩) 12 _ (by decide) rfl)

theorem HardAt.put {w : World} {b : Nat} {x x' : Hard10} (h : HardAt w b x) (i : Nat) (v : Value) (hi : i < 3) (hc : x'.arr = x.arr.set i v (by show i < 3; exact hi)) : HardAt (w.setCell ⟨b, i, none⟩ v) b x' := by
  unfold HardAt
  rw [hc]
  exact set_block9 h i v _
theorem fillH {w : World} {b : Nat} {x0 : Hard10} (h : HardAt w b x0) (ht : Int) (hv : Int) (hc : Int) : HardAt (((w.setCell ⟨b, 0, none⟩ (.int .i64 ht)).setCell ⟨b, 1, none⟩ (.int .i64 hv)).setCell ⟨b, 2, none⟩ (.int .i64 hc)) b ⟨ht, hv, hc⟩ := by
  obtain ⟨ht0_, hv0_, hc0_⟩ := x0
  exact (((h.put (x' := ⟨ht, hv0_, hc0_⟩) 0 _ (by decide) rfl).put (x' := ⟨ht, hv, hc0_⟩) 1 _ (by decide) rfl).put (x' := ⟨ht, hv, hc⟩) 2 _ (by decide) rfl)

theorem fillC {w : World} {b : Nat} {c0 : Cmd9} (h : CmdAt w b c0) (k s q : Int) (key old val unt : ByteArray) (lim : Int) :
    CmdAt ((((((((w.setCell ⟨b, 0, none⟩ (.int .i64 k)).setCell ⟨b, 1, none⟩ (.int .i64 s)).setCell ⟨b, 2, none⟩ (.int .i64 q)).setCell ⟨b, 3, none⟩ (.string key)).setCell ⟨b, 4, none⟩ (.string old)).setCell ⟨b, 5, none⟩ (.string val)).setCell ⟨b, 6, none⟩ (.string unt)).setCell ⟨b, 7, none⟩ (.int .i64 lim)) b ⟨k, s, q, key, old, val, unt, lim⟩ :=
  ((((((((h.put (c' := ⟨k, c0.s, c0.q, c0.key, c0.old, c0.val, c0.unt, c0.lim⟩) 0 (.int .i64 k) (by omega) rfl).put (c' := ⟨k, s, c0.q, c0.key, c0.old, c0.val, c0.unt, c0.lim⟩) 1 (.int .i64 s) (by omega) rfl).put (c' := ⟨k, s, q, c0.key, c0.old, c0.val, c0.unt, c0.lim⟩) 2 (.int .i64 q) (by omega) rfl).put (c' := ⟨k, s, q, key, c0.old, c0.val, c0.unt, c0.lim⟩) 3 (.string key) (by omega) rfl).put (c' := ⟨k, s, q, key, old, c0.val, c0.unt, c0.lim⟩) 4 (.string old) (by omega) rfl).put (c' := ⟨k, s, q, key, old, val, c0.unt, c0.lim⟩) 5 (.string val) (by omega) rfl).put (c' := ⟨k, s, q, key, old, val, unt, c0.lim⟩) 6 (.string unt) (by omega) rfl).put (c' := ⟨k, s, q, key, old, val, unt, lim⟩) 7 (.int .i64 lim) (by omega) rfl)
/-- Members that the call made. -/
structure OwnsF (w : World) (B : Nat) (x : ConfV) : Prop where
  u : OwnsI w B (.slice x.u.p x.u.n x.u.c) x.f.vs
  v : OwnsI w B (.slice x.v.p x.v.n x.v.c) x.f.ls
  iu : inL x.f.vs
  iv : inL x.f.ls
  lu : x.f.vs.length ≤ 1000000
  lv : x.f.ls.length ≤ 1000000
theorem OwnsF.fits {w : World} {B : Nat} {x : ConfV} (h : OwnsF w B x) : FitsF w x := ⟨h.u.has, h.v.has, h.iu, h.iv, Nat.le_trans h.lu (by decide), Nat.le_trans h.lv (by decide)⟩
theorem OwnsF.mono {w : World} {B B' : Nat} {x : ConfV} (h : OwnsF w B x) (hB : B' ≤ B) : OwnsF w B' x := ⟨h.u.mono hB, h.v.mono hB, h.iu, h.iv, h.lu, h.lv⟩
theorem OwnsF.kept {w w' : World} {B r : Nat} {x : ConfV} (h : OwnsF w B x) (hg : w.grownBy w' (some r)) (hr : r < B) : OwnsF w' B x := ⟨h.u.kept10 hg hr, h.v.kept10 hg hr, h.iu, h.iv, h.lu, h.lv⟩
theorem OwnsF.below {w w' : World} {B : Nat} {x : ConfV} (h : OwnsF w B x) (hb : Below w.heap.size w w') : OwnsF w' B x := ⟨h.u.below hb (Nat.le_refl _), h.v.below hb (Nat.le_refl _), h.iu, h.iv, h.lu, h.lv⟩
theorem OwnsF.nil (w : World) (B : Nat) : OwnsF w B noFV := ⟨OwnsI.nil w B, OwnsI.nil w B, (fun _ h => by cases h), (fun _ h => by cases h), Nat.zero_le _, Nat.zero_le _⟩
theorem grown_new {w x : World} {rb b : Nat} (h : w.grownBy x (some rb)) (hb : w.heap.size ≤ b) (i : Nat) (v : Value) : w.grownBy (x.setCell ⟨b, i, none⟩ v) (some rb) := by
  have hg := grown_set x b i v
  exact ⟨hg.os.trans h.os, hg.tape.trans h.tape, hg.output.trans h.output, Nat.le_trans h.size hg.size, fun k hk hr => (hg.block k (Nat.lt_of_lt_of_le hk h.size) (by intro e; have := Option.some.inj e; omega)).trans (h.block k hk hr)⟩
theorem Rdr.cell {w0 w : World} {rb b : Nat} {S : St} (h : Rdr w0 w rb S) (hb : w0.heap.size ≤ b) (hne : rb ≠ b) (i : Nat) (v : Value) : Rdr w0 (w.setCell ⟨b, i, none⟩ v) rb S := h.set (grown_set w b i v) hb hne
theorem OwnsF.cell {w : World} {B b : Nat} {x : ConfV} (h : OwnsF w B x) (hb : b < B) (i : Nat) (v : Value) : OwnsF (w.setCell ⟨b, i, none⟩ v) B x := h.kept (grown_set w b i v) hb
theorem list10_len (m : Int) (hm : 0 ≤ m) (hm2 : m ≤ 1000000) (S : St) : (list10 m S).1.length ≤ 1000000 := by
  have := (cnt_of m hm S).2
  unfold list10
  rw [ints10_len]
  omega
theorem list10_in (m : Int) (S : St) : inL (list10 m S).1 := ints10_in _ _

set_option maxRecDepth 100000 in
set_option maxHeartbeats 2000000 in
theorem confR_any (w0 w : World) (rb : Nat) (S : St) (h : Rdr w0 w rb S) :
    Calls Tryz.prog 70 #[.pointer (some ⟨rb, 0, none⟩)] w fun e w' => ∃ X : ConfV, e = .returned (.agg X.arr) ∧ OwnsF w' w.heap.size X ∧ X.f = (conf10 9 S).1 ∧ Left10 w0 w rb (conf10 9 S).2 w' := by
  have hmf : ∀ (fn : Fn) (first cap : Array Value) (w : World), (Instr.makeFunc fn first cap).run Tryz.prog w = .ok (.func fn first cap) w := fun _ _ _ _ => rfl
  have HC : Hid (conf10 9 S = (⟨(list10 9 S).1, (list10 9 (list10 9 S).2).1⟩, (list10 9 (list10 9 S).2).2)) := rfl
  have hb1 : Below w.heap.size w (w.alloc (.cells noFV.arr 28)) := (Below.refl _ _).alloc (Nat.le_refl _) _
  have hbox : ConfAt (w.alloc (.cells noFV.arr 28)) w.heap.size noFV := heap_alloc_new w _
  have hz1 : (w.alloc (.cells noFV.arr 28)).heap.size = w.heap.size + 1 := by simp
  have hrl := h.lt
  have hwb := h.bel.size
  have k1 := listI_any w0 _ rb S (h.more hb1)
  have HI1 : Hid (inL (list10 9 S).1) := list10_in 9 S
  have HI2 : Hid (inL (list10 9 (list10 9 S).2).1) := list10_in 9 _
  have HL1 : Hid ((list10 9 S).1.length ≤ 1000000) := list10_len 9 (by decide) (by decide) S
  have HL2 : Hid ((list10 9 (list10 9 S).2).1.length ≤ 1000000) := list10_len 9 (by decide) (by decide) _
  generalize conf10 9 S = R at *
  generalize list10 9 S = A at *
  obtain ⟨l1, S1⟩ := A
  dsimp only at k1 HC HI1 HI2 HL1 HL2
  unfold noFV nilS10 at *
  unfold ConfV.arr at *
  dsimp only at *
  go_enter Tryz.func70, Tryz.ntmps70
  go_wp2_with fail
  generalize w.alloc (.cells #[.slice none 0 0, .slice none 0 0] 28) = W1 at *
  refine k1.mono ?_
  rintro e w2 ⟨p, n, c, rfl, ho2, hR2, hg2⟩
  have k2 := listI_any w0 _ rb S1 hR2
  have hbox2 := grown_box hg2 hbox (by omega)
  have hsz2 := hg2.size
  generalize list10 9 S1 = A at *
  obtain ⟨l2, S2⟩ := A
  dsimp only at k2 HC HI2 HL2
  clear k1 hbox hR2
  go_wp2_with fail
  refine k2.mono ?_
  rintro e w3 ⟨q, m, d, rfl, ho3, hR3, hg3⟩
  have hbox3 : ConfAt w3 w.heap.size ⟨⟨none, 0, 0⟩, ⟨none, 0, 0⟩, noF10⟩ := grown_box hg3 hbox2 (by omega)
  have ho2' := ho2.kept10 hg3 (by omega)
  have hG3 := grown_after hb1 (grown_trans hg2 hg3)
  obtain ⟨c0, c1⟩ := hbox3.cells
  dsimp only at c0 c1
  have hlt := box_lt hbox3
  have f0 := frozen9 hbox3
  have hO : OwnsF w3 W1.heap.size ⟨⟨p, n, c⟩, ⟨q, m, d⟩, ⟨l1, l2⟩⟩ := ⟨ho2', ho3.mono hsz2, HI1.out, HI2.out, HL1.out, HL2.out⟩
  clear k2 hbox2 ho2 ho2' ho3 hg2 hg3
  go_wp2
  have hF := fillF hbox3 p n c q m d ⟨l1, l2⟩
  have hR9 := (hR3.cell (b := w.heap.size) (by omega) (by omega) 0 (.slice p n c)).cell (b := w.heap.size) (by omega) (by omega) 1 (.slice q m d)
  have hO9 := (hO.cell (b := w.heap.size) (by omega) 0 (.slice p n c)).cell (b := w.heap.size) (by omega) 1 (.slice q m d)
  have hG9 := grown_new (grown_new hG3 (Nat.le_refl _) 0 (.slice p n c)) (Nat.le_refl _) 1 (.slice q m d)
  refine bodyPost_ret (ret_one rfl _ _ w.heap.size _ _ _ _ rfl hF Tryz.underlying28 rfl (by kernel_rfl)) rfl ⟨⟨⟨p, n, c⟩, ⟨q, m, d⟩, ⟨l1, l2⟩⟩, rfl, hO9.mono (by omega), ?_, ?_, hG9⟩
  · rw [HC.out]
  · rw [HC.out]; exact hR9

theorem bytes_has (w : World) (s : ByteArray) : Has (Lib.bytesWorld w 5 s) (.slice (some ⟨w.heap.size, 0, none⟩) s.size (grownCap w s.size 0 5)) (strB s) ∧ Below w.heap.size w (Lib.bytesWorld w 5 s) := by
  refine ⟨⟨some ⟨w.heap.size, 0, none⟩, _, by rw [strB_length], by rw [strB_length]; exact grownCap_ge _ _ _ _, (fun h => by cases h), fun _ => ⟨w.heap.size, 0, rfl, by rw [Lib.bytesWorld_size]; omega, fun i hi => ?_⟩⟩, ⟨rfl, rfl, rfl, by rw [Lib.bytesWorld_size]; omega, fun k hk => Lib.bytesWorld_at_old w _ s k hk⟩⟩
  rw [strB_length] at hi
  rw [Nat.zero_add, Lib.bytesWorld_cell w _ s i hi]
  unfold strB
  have hi' : i < s.data.toList.length := by rw [Array.length_toList]; exact hi
  simp [List.getD_eq_getElem?_getD, List.getElem?_eq_getElem hi']

theorem byt10_isB {S : St} (h : IsB S.1) : IsB (byt10 S).1 := by
  unfold byt10
  dsimp only
  unfold getTextS
  split
  · exact IsB.nil
  · exact IsB.cut h _ _
theorem byt10_len (S : St) : (byt10 S).1.length ≤ S.1.length := (getTextS_bd S.1).2

set_option maxRecDepth 100000 in
set_option maxHeartbeats 2000000 in
theorem cmdR_any (w0 w : World) (rb : Nat) (S : St) (h : Rdr w0 w rb S) :
    Calls Tryz.prog 69 #[.pointer (some ⟨rb, 0, none⟩)] w fun e w' => e = .returned (.agg (readC9 (byt10 S).1).1.arr) ∧ Left10 w0 w rb (byt10 S).2 w' := by
  have hb1 : Below w.heap.size w (w.alloc (.cells zeroC9.arr 25)) := (Below.refl _ _).alloc (Nat.le_refl _) _
  have hbox : CmdAt (w.alloc (.cells zeroC9.arr 25)) w.heap.size zeroC9 := heap_alloc_new w _
  have hrl := h.lt
  have hwb := h.bel.size
  have k1 := (h.more hb1).text
  have HB : Hid (IsB (byt10 S).1) := byt10_isB h.isb
  have hlen := byt10_len S
  have hlS := h.len
  have kr : Hid (∀ W v, Has W v (byt10 S).1 → Calls Tryz.prog 103 #[v] W fun e w' => e = .returned (.tuple #[.agg (readC9 (byt10 S).1).1.arr, .int .i64 (readC9 (byt10 S).1).2]) ∧ Below W.heap.size W w') := fun W v hv => readC_any v _ W hv HB.out (by omega)
  have HT : Hid (strB (strOfNums (byt10 S).1) = (byt10 S).1) := strB_of HB.out
  generalize byt10 S = A at *
  obtain ⟨xs, S1⟩ := A
  dsimp only at k1 kr HB HT hlen
  generalize readC9 xs = R at *
  obtain ⟨⟨ck, cs, cq, ckey, cold, cval, cunt, clim⟩, err⟩ := R
  generalize strOfNums xs = sx at *
  unfold zeroC9 at *
  unfold Cmd9.arr at *
  dsimp only at *
  clear h hlen hlS
  go_enter Tryz.func69, Tryz.ntmps69
  go_wp2_with fail
  generalize w.alloc (.cells #[.int .i64 0, .int .i64 0, .int .i64 0, .string em9, .string em9, .string em9, .string em9, .int .i64 0] 25) = W1 at *
  refine k1.mono ?_
  rintro e w2 ⟨rfl, hR2, hg2⟩
  have hbox2 := grown_box hg2 hbox (by omega)
  have hcv := Lib.run_convert_string_bytes (P := Tryz.prog) w2 9 22 5 sx (u := .string) Tryz.underlying9 Tryz.underlying22 Tryz.underlying5
  obtain ⟨hH, hb3⟩ := bytes_has w2 sx
  rw [HT.out] at hH
  have hG2 := grown_after hb1 hg2
  have hR3 := hR2.more hb3
  have hbox3 := box_below hbox2 hb3
  have hG3 := grown_trans hG2 (below_grownBy hb3)
  have k3 := kr.out _ _ hH
  clear k1 hbox hR2 hg2 hbox2 hG2 hH hb3
  generalize Lib.bytesWorld w2 5 sx = W3 at *
  generalize grownCap w2 sx.size 0 5 = gc at *
  go_wp2_with fail
  refine k3.mono ?_
  rintro e w4 ⟨rfl, hb4⟩
  have hb5 : Below w4.heap.size w4 (w4.alloc (.cells (Cmd9.mk ck cs cq ckey cold cval cunt clim).arr 25)) := (Below.refl _ _).alloc (Nat.le_refl _) _
  have hbn : CmdAt (w4.alloc (.cells (Cmd9.mk ck cs cq ckey cold cval cunt clim).arr 25)) w4.heap.size ⟨ck, cs, cq, ckey, cold, cval, cunt, clim⟩ := heap_alloc_new w4 _
  have hR5 := (hR3.more hb4).more hb5
  have hbox5 : CmdAt _ w.heap.size ⟨0, 0, 0, em9, em9, em9, em9, 0⟩ := box_below (box_below hbox3 hb4) hb5
  have hG5 := grown_trans (grown_trans hG3 (below_grownBy hb4)) (below_grownBy hb5)
  unfold Cmd9.arr at hb5 hbn hR5 hbox5 hG5
  dsimp only at hb5 hbn hR5 hbox5 hG5
  clear k3 hR3 hbox3 hG3 hb4 hb5 hcv
  go_upto_region 2 with fail
  generalize w4.alloc (.cells #[.int .i64 ck, .int .i64 cs, .int .i64 cq, .string ckey, .string cold, .string cval, .string cunt, .int .i64 clim] 25) = W5 at *
  replace hbox5 : CmdAt W5 w.heap.size ⟨0, 0, 0, em9, em9, em9, em9, 0⟩ := hbox5
  replace hbn : CmdAt W5 w4.heap.size ⟨ck, cs, cq, ckey, cold, cval, cunt, clim⟩ := hbn
  obtain ⟨c0, c1, c2, c3, c4, c5, c6, c7⟩ := hbn.cells
  obtain ⟨d0, d1, d2, d3, d4, d5, d6, d7⟩ := hbox5.cells
  dsimp only at c0 c1 c2 c3 c4 c5 c6 c7 d0 d1 d2 d3 d4 d5 d6 d7
  have hl1 := hbn.lt
  have hl2 := hbox5.lt
  have f0 := frozen9 hbox5
  generalize w4.heap.size = bn at *
  go_wp2
  have hF := fillC hbox5 ck cs cq ckey cold cval cunt clim
  have hR9 := ((((((((((((((((hR5).cell (b := w.heap.size) (by omega) (by omega) 0 (.int .i64 ck))).cell (b := w.heap.size) (by omega) (by omega) 1 (.int .i64 cs))).cell (b := w.heap.size) (by omega) (by omega) 2 (.int .i64 cq))).cell (b := w.heap.size) (by omega) (by omega) 3 (.string ckey))).cell (b := w.heap.size) (by omega) (by omega) 4 (.string cold))).cell (b := w.heap.size) (by omega) (by omega) 5 (.string cval))).cell (b := w.heap.size) (by omega) (by omega) 6 (.string cunt))).cell (b := w.heap.size) (by omega) (by omega) 7 (.int .i64 clim))
  have hG9 := (grown_new (b := w.heap.size) (grown_new (b := w.heap.size) (grown_new (b := w.heap.size) (grown_new (b := w.heap.size) (grown_new (b := w.heap.size) (grown_new (b := w.heap.size) (grown_new (b := w.heap.size) (grown_new (b := w.heap.size) hG5 (by omega) 0 (.int .i64 ck)) (by omega) 1 (.int .i64 cs)) (by omega) 2 (.int .i64 cq)) (by omega) 3 (.string ckey)) (by omega) 4 (.string cold)) (by omega) 5 (.string cval)) (by omega) 6 (.string cunt)) (by omega) 7 (.int .i64 clim))
  exact bodyPost_ret (ret_one rfl _ _ w.heap.size _ _ _ _ rfl hF Tryz.underlying25 rfl (by kernel_rfl)) rfl ⟨rfl, hR9, hG9⟩
end Go.Proofs.YtnbaoimjcaeeaaaGreat

/-
  Contracts: entry.putConf, putEntry, putSnap, Bytes, HardBytes, SnapBytes.
-/
namespace Go.Proofs.YtnbaoimjcaeeaaaGreat
open Go.RowKit

/-- What is few enough to be written. -/
def FewF (c : Conf10) : Prop := c.vs.length ≤ 1000 ∧ c.ls.length ≤ 1000
def FewC (c : Cmd9) : Prop := c.key.size ≤ 20000 ∧ c.old.size ≤ 20000 ∧ c.val.size ≤ 20000 ∧ c.unt.size ≤ 20000
theorem listB_len (l : List Int) : (listB l).length ≤ 9 + 9 * l.length := by
  unfold listB
  have := numB_le (l.length : Int)
  have := numsB_len l
  rw [List.length_append]
  omega
theorem confB_len {c : Conf10} (h : FewF c) : (confB c).length ≤ 18018 := by
  unfold confB
  have := listB_len c.vs
  have := listB_len c.ls
  obtain ⟨h1, h2⟩ := h
  rw [List.length_append]
  omega
theorem cmdB_few {c : Cmd9} (h : FewC c) : (cmdB c).length ≤ 80072 := by
  have := cmdB_length c
  obtain ⟨h1, h2, h3, h4⟩ := h
  omega
theorem bytB_len (xs : List Int) : (bytB xs).length ≤ 9 + xs.length := by
  unfold bytB
  have := numB_le (xs.length : Int)
  rw [List.length_append]
  omega
theorem entB_len {e : Ent10} (h : FewC e.c) (hf : FewF e.f) : (entB e).length ≤ 100000 := by
  unfold entB
  have h1 := zigB_le e.i
  have h2 := zigB_le e.t
  have h3 := zigB_le e.k
  have h4 := cmdB_few h
  have h5 := bytB_len (cmdB e.c)
  have h6 := confB_len hf
  simp only [List.length_append]
  split <;> split <;> (try simp only [List.length_nil]) <;> omega

set_option maxRecDepth 100000 in
set_option maxHeartbeats 1500000 in
theorem putConf_any (w0 w : World) (v : Value) (xs : List Int) (x : ConfV) (h : Put10 w0 w v xs) (hF : FitsF w0 x) (hf : FewF x.f) (hl : xs.length ≤ 1073600000) :
    Calls Tryz.prog 90 #[v, .agg x.arr] w (Puts w0 w (xs ++ confB x.f)) := by
  have hb1 : Below w.heap.size w (w.alloc (.cells x.arr 28)) := (Below.refl _ _).alloc (Nat.le_refl _) _
  have hbox : ConfAt (w.alloc (.cells x.arr 28)) w.heap.size x := heap_alloc_new w _
  have hn1 := hF.u.len.1
  have hn2 := hF.v.len.1
  obtain ⟨f1, f2⟩ := hf
  have HC : Hid (confB x.f = listB x.f.vs ++ listB x.f.ls) := rfl
  have k1 := putListI_any w0 (w.alloc (.cells x.arr 28)) v xs x.f.vs _ _ _ (h.more hb1) hF.u (by omega) (by omega)
  have hll := listB_len x.f.vs
  have k2 := fun W u (hP : Put10 w0 W u (xs ++ listB x.f.vs)) => putListI_any w0 W u (xs ++ listB x.f.vs) x.f.ls _ _ _ hP hF.v (by omega) (by rw [List.length_append]; omega)
  have K2 : Hid _ := k2
  generalize confB x.f = bs at *
  generalize listB x.f.vs = l1 at *
  generalize listB x.f.ls = l2 at *
  obtain ⟨⟨p, n, c⟩, ⟨q, m, d⟩, f⟩ := x
  unfold ConfV.arr at *
  dsimp only at *
  clear hF hn1 hn2 h k2
  go_enter Tryz.func90, Tryz.ntmps90
  go_wp2_with fail
  generalize w.alloc (.cells #[.slice p n c, .slice q m d] 28) = W1 at *
  refine k1.mono ?_
  rintro e w2 ⟨v2, rfl, hP2, hk2⟩
  have hbox2 : ConfAt w2 w.heap.size ⟨⟨p, n, c⟩, ⟨q, m, d⟩, f⟩ := hk2 _ _ _ _ hbox (by decide)
  obtain ⟨c0, c1⟩ := hbox2.cells
  dsimp only at c0 c1
  have hlt := box_lt hbox2
  have k3 := K2.out w2 v2 hP2
  clear k1 hbox
  go_wp2_with fail
  refine k3.mono ?_
  rintro e w3 ⟨v3, rfl, hP3, hk3⟩
  go_wp2
  go_ret
  exact ⟨_, rfl, by rw [HC.out, ← List.append_assoc]; exact hP3, ((Kin8.below hb1).trans hk2).trans hk3⟩

set_option maxRecDepth 100000 in
set_option maxHeartbeats 2000000 in
theorem putEntry_any (w0 w : World) (v : Value) (xs : List Int) (x : EntV) (h : Put10 w0 w v xs) (hF : FitsF w0 x.f) (hf : FewF x.f.f) (hc : FewC x.c) (hl : xs.length ≤ 1073000000) :
    Calls Tryz.prog 55 #[v, .agg x.arr] w (Puts w0 w (xs ++ entB x.e)) := by
  have hb1 : Below w.heap.size w (w.alloc (.cells x.arr 30)) := (Below.refl _ _).alloc (Nat.le_refl _) _
  have hbox : EntAt (w.alloc (.cells x.arr 30)) w.heap.size x := heap_alloc_new w _
  have hz1 : (w.alloc (.cells x.arr 30)).heap.size = w.heap.size + 1 := by simp
  have hP1 := h.more hb1
  have HE : Hid (entB x.e = zigB x.i ++ zigB x.t ++ zigB x.k ++ (if x.k = 2 then bytB (cmdB x.c) else []) ++ (if x.k = 3 then confB x.f.f else [])) := rfl
  have HN : Hid (numsB [x.i, x.t, x.k] = zigB x.i ++ zigB x.t ++ zigB x.k) := by simp [Hid, numsB]
  have hl1 : (numsB [x.i, x.t, x.k]).length ≤ 27 := numsB_len _
  have kb := fun W => bytes20_any x.c W hc
  have hcl := cmdB_few hc
  have kt : Hid (∀ W u t, Put10 w0 W u (xs ++ numsB [x.i, x.t, x.k]) → Has W t (cmdB x.c) → Calls Tryz.prog 88 #[u, t] W (Puts w0 W (xs ++ numsB [x.i, x.t, x.k] ++ bytB (cmdB x.c)))) := fun W u t hP ht => putTextE_any w0 W u t _ _ hP ht (cmdB_isB _) (by rw [List.length_append]; omega) (by omega)
  have kf : Hid (∀ W u, Put10 w0 W u (xs ++ numsB [x.i, x.t, x.k]) → Calls Tryz.prog 90 #[u, .agg x.f.arr] W (Puts w0 W (xs ++ numsB [x.i, x.t, x.k] ++ confB x.f.f))) := fun W u hP => putConf_any w0 W u _ x.f hP hF hf (by rw [List.length_append]; omega)
  have kn := fun W (hP : Put10 w0 W v xs) R (hR : W.heap[R]? = some (.cells ([x.i, x.t, x.k].map (Value.int .i64)).toArray 3 (0, 0))) => putNumbers_any w0 W v xs [x.i, x.t, x.k] R 3 hP hR rfl (by omega) (by omega)
  have HKN : Hid _ := kn
  clear kn h hl hcl hc hf hF
  generalize numsB [x.i, x.t, x.k] = ns at *
  generalize cmdB x.c = cb at *
  generalize confB x.f.f = fb at *
  generalize hbs : entB x.e = bs at *
  clear hbs
  obtain ⟨i, t, k, ⟨ck, cs, cq, ckey, cold, cval, cunt, clim⟩, ⟨⟨p, n, c⟩, ⟨q, m, d⟩, f⟩⟩ := x
  unfold EntV.arr ConfV.arr Cmd9.arr at *
  dsimp only at *
  have hr := heap_alloc_new (w.alloc (.cells #[.int .i64 i, .int .i64 t, .int .i64 k, .int .i64 ck, .int .i64 cs, .int .i64 cq, .string ckey, .string cold, .string cval, .string cunt, .int .i64 clim, .slice p n c, .slice q m d] 30)) (.cells #[.int .i64 i, .int .i64 t, .int .i64 k] 3)
  have hb2 := (Below.refl _ (w.alloc (.cells #[.int .i64 i, .int .i64 t, .int .i64 k, .int .i64 ck, .int .i64 cs, .int .i64 cq, .string ckey, .string cold, .string cval, .string cunt, .int .i64 clim, .slice p n c, .slice q m d] 30))).alloc (Nat.le_refl _) (.cells #[.int .i64 i, .int .i64 t, .int .i64 k] 3)
  rw [hz1] at hr
  have hP2 := hP1.more hb2
  have k1 := HKN.out _ hP2 (w.heap.size + 1) hr
  have hbox2 := box_below hbox hb2
  have hkk := (Kin8.below hb1).trans (Kin8.below hb2)
  clear hP1 hbox hr HKN hP2 hb2
  go_enter Tryz.func55, Tryz.ntmps55
  go_wp2_with fail
  generalize (w.alloc (.cells #[.int .i64 i, .int .i64 t, .int .i64 k, .int .i64 ck, .int .i64 cs, .int .i64 cq, .string ckey, .string cold, .string cval, .string cunt, .int .i64 clim, .slice p n c, .slice q m d] 30)).alloc (.cells #[.int .i64 i, .int .i64 t, .int .i64 k] 3) = W2 at *
  refine k1.mono ?_
  rintro e w3 ⟨v3, rfl, hP3, hk3⟩
  have hbox3 : EntAt w3 w.heap.size ⟨i, t, k, ⟨ck, cs, cq, ckey, cold, cval, cunt, clim⟩, ⟨⟨p, n, c⟩, ⟨q, m, d⟩, f⟩⟩ := hk3 _ _ _ _ hbox2 (by decide)
  obtain ⟨c0, c1, c2, c3, c4, c5, c6, c7, c8, c9, c10, c11, c12⟩ := hbox3.cells
  dsimp only at c0 c1 c2 c3 c4 c5 c6 c7 c8 c9 c10 c11 c12
  have hlt := box_lt hbox3
  have hk4 := hkk.trans hk3
  clear k1 hbox2 hkk hk3 hb1
  by_cases h2 : k = 2
  · have HE2 : Hid (xs ++ bs = xs ++ ns ++ bytB cb) := by rw [Hid, HE.out, ← HN.out, if_pos h2, if_neg (by omega), List.append_nil, List.append_assoc]
    subst h2
    clear HE
    go_wp2_with fail
    refine (kb _).mono ?_
    rintro e w4 ⟨v4, rfl, ho4, hb4⟩
    have k5 := kt.out w4 v3 v4 (hP3.more hb4) ho4.has
    have hk5 := hk4.trans (Kin8.below hb4)
    clear kb c0 c1 c2 c3 c4 c5 c6 c7 c8 c9 c10 c11 c12
    go_wp2_with fail
    refine k5.mono ?_
    rintro e w5 ⟨v5, rfl, hP5, hk6⟩
    go_wp2
    go_ret
    exact ⟨_, rfl, by rw [HE2.out]; exact hP5, hk5.trans hk6⟩
  · have e2 : (k == 2) = false := by simpa using h2
    by_cases h3 : k = 3
    · have HE2 : Hid (xs ++ bs = xs ++ ns ++ fb) := by rw [Hid, HE.out, ← HN.out, if_neg h2, if_pos h3, List.append_nil, List.append_assoc]
      subst h3
      have k5 := kf.out w3 v3 hP3
      clear HE kb
      go_wp2_with fail
      refine k5.mono ?_
      rintro e w5 ⟨v5, rfl, hP5, hk6⟩
      go_wp2
      go_ret
      exact ⟨_, rfl, by rw [HE2.out]; exact hP5, hk4.trans hk6⟩
    · have HE2 : Hid (xs ++ bs = xs ++ ns) := by rw [Hid, HE.out, ← HN.out, if_neg h2, if_neg h3, List.append_nil, List.append_nil]
      have e3 : (k == 3) = false := by simpa using h3
      clear HE kb
      go_wp2
      go_ret
      exact ⟨_, rfl, by rw [HE2.out]; exact hP3, hk4⟩

set_option maxRecDepth 100000 in
set_option maxHeartbeats 1500000 in
theorem bytesE_any (w : World) (x : EntV) (hF : FitsF w x.f) (hf : FewF x.f.f) (hc : FewC x.c) :
    Calls Tryz.prog 24 #[.agg x.arr] w fun e w' => ∃ v, e = .returned v ∧ Owns w' w.heap.size 5 v (entB x.e) ∧ Below w.heap.size w w' := by
  have hb1 : Below w.heap.size w (w.alloc (.cells x.arr 30)) := (Below.refl _ _).alloc (Nat.le_refl _) _
  have k1 := putEntry_any w (w.alloc (.cells x.arr 30)) (.slice none 0 0) [] x ((Put10.nil w).more hb1) hF hf hc (by simp)
  rw [List.nil_append] at k1
  generalize entB x.e = bs at *
  obtain ⟨i, t, k, ⟨ck, cs, cq, ckey, cold, cval, cunt, clim⟩, ⟨⟨p, n, c⟩, ⟨q, m, d⟩, f⟩⟩ := x
  unfold EntV.arr at *
  dsimp only at *
  go_enter Tryz.func24, Tryz.ntmps24
  go_wp2_with fail
  refine k1.mono ?_
  rintro e w3 ⟨v3, rfl, hP3, hk3⟩
  go_wp2
  go_ret
  exact ⟨_, rfl, hP3.own, hP3.bel⟩

set_option maxRecDepth 100000 in
set_option maxHeartbeats 2000000 in
theorem putSnap_any (w0 w : World) (v : Value) (xs : List Int) (x : SnapV) (h : Put10 w0 w v xs) (hF : FitsS w0 x) (hf : FewF x.f.f) (hd : x.d.length ≤ 1000000) (hl : xs.length ≤ 1073000000) :
    Calls Tryz.prog 56 #[v, .agg x.arr] w (Puts w0 w (xs ++ snapB x.s)) := by
  have hb1 : Below w.heap.size w (w.alloc (.cells x.arr 43)) := (Below.refl _ _).alloc (Nat.le_refl _) _
  have hbox : SnapAt (w.alloc (.cells x.arr 43)) w.heap.size x := heap_alloc_new w _
  have hz1 : (w.alloc (.cells x.arr 43)).heap.size = w.heap.size + 1 := by simp
  have hP1 := h.more hb1
  have HN : Hid (numsB [x.i, x.t] = zigB x.i ++ zigB x.t) := by simp [Hid, numsB]
  have HE : Hid (xs ++ snapB x.s = xs ++ numsB [x.i, x.t] ++ confB x.f.f ++ bytB x.d) := by
    rw [Hid, HN.out]
    unfold snapB SnapV.s
    dsimp only
    simp only [List.append_assoc]
  have hl1 : (numsB [x.i, x.t]).length ≤ 18 := numsB_len _
  have hl2 := confB_len hf
  have kt : Hid (∀ W u t, Put10 w0 W u (xs ++ numsB [x.i, x.t] ++ confB x.f.f) → Has W t x.d → Calls Tryz.prog 88 #[u, t] W (Puts w0 W (xs ++ numsB [x.i, x.t] ++ confB x.f.f ++ bytB x.d))) := fun W u t hP ht => putTextE_any w0 W u t _ _ hP ht hF.b (by rw [List.length_append, List.length_append]; omega) (by omega)
  have kf : Hid (∀ W u, Put10 w0 W u (xs ++ numsB [x.i, x.t]) → Calls Tryz.prog 90 #[u, .agg x.f.arr] W (Puts w0 W (xs ++ numsB [x.i, x.t] ++ confB x.f.f))) := fun W u hP => putConf_any w0 W u _ x.f hP hF.f hf (by rw [List.length_append]; omega)
  have kn := fun W (hP : Put10 w0 W v xs) R (hR : W.heap[R]? = some (.cells ([x.i, x.t].map (Value.int .i64)).toArray 3 (0, 0))) => putNumbers_any w0 W v xs [x.i, x.t] R 2 hP hR rfl (by omega) (by omega)
  have HKN : Hid _ := kn
  have HD : Hid (Has w0 (.slice x.w.p x.w.n x.w.c) x.d) := hF.w
  clear kn h hl hd hf hF HN
  generalize numsB [x.i, x.t] = ns at *
  generalize confB x.f.f = fb at *
  generalize hbs : snapB x.s = bs at *
  clear hbs
  obtain ⟨i, t, ⟨⟨p, n, c⟩, ⟨q, m, d⟩, f⟩, ⟨a, b, e⟩, dd⟩ := x
  unfold SnapV.arr ConfV.arr at *
  dsimp only at *
  have hr := heap_alloc_new (w.alloc (.cells #[.int .i64 i, .int .i64 t, .slice p n c, .slice q m d, .slice a b e] 43)) (.cells #[.int .i64 i, .int .i64 t] 3)
  have hb2 := (Below.refl _ (w.alloc (.cells #[.int .i64 i, .int .i64 t, .slice p n c, .slice q m d, .slice a b e] 43))).alloc (Nat.le_refl _) (.cells #[.int .i64 i, .int .i64 t] 3)
  rw [hz1] at hr
  have hP2 := hP1.more hb2
  have k1 := HKN.out _ hP2 (w.heap.size + 1) hr
  have hbox2 := box_below hbox hb2
  have hkk := (Kin8.below hb1).trans (Kin8.below hb2)
  clear hP1 hbox hr HKN hP2 hb2
  go_enter Tryz.func56, Tryz.ntmps56
  go_wp2_with fail
  generalize (w.alloc (.cells #[.int .i64 i, .int .i64 t, .slice p n c, .slice q m d, .slice a b e] 43)).alloc (.cells #[.int .i64 i, .int .i64 t] 3) = W2 at *
  refine k1.mono ?_
  rintro e' w3 ⟨v3, rfl, hP3, hk3⟩
  have hbox3 : SnapAt w3 w.heap.size ⟨i, t, ⟨⟨p, n, c⟩, ⟨q, m, d⟩, f⟩, ⟨a, b, e⟩, dd⟩ := hk3 _ _ _ _ hbox2 (by decide)
  obtain ⟨c0, c1, c2, c3, c4⟩ := hbox3.cells
  dsimp only at c0 c1 c2 c3 c4
  have hlt := box_lt hbox3
  have hk4 := hkk.trans hk3
  have k5 := kf.out w3 v3 hP3
  clear k1 hbox2 hkk hk3 hb1
  go_wp2_with fail
  refine k5.mono ?_
  rintro e' w5 ⟨v5, rfl, hP5, hk5⟩
  have hbox5 : SnapAt w5 w.heap.size ⟨i, t, ⟨⟨p, n, c⟩, ⟨q, m, d⟩, f⟩, ⟨a, b, e⟩, dd⟩ := hk5 _ _ _ _ hbox3 (by decide)
  have k6 := kt.out w5 v5 (.slice a b e) hP5 (HD.out.below hP5.bel (Nat.le_refl _))
  clear c0 c1 c2 c3 c4 k5 hbox3 hlt
  obtain ⟨c0, c1, c2, c3, c4⟩ := hbox5.cells
  dsimp only at c0 c1 c2 c3 c4
  have hlt := box_lt hbox5
  go_wp2_with fail
  refine k6.mono ?_
  rintro e' w6 ⟨v6, rfl, hP6, hk6⟩
  go_wp2
  go_ret
  exact ⟨_, rfl, by rw [HE.out]; exact hP6, (hk4.trans hk5).trans hk6⟩
end Go.Proofs.YtnbaoimjcaeeaaaGreat
