import Derived.Test.YtojfihfdnchkeaaGreatDoorEo1
import Derived.Test.YtojfihfdnchkeaaGreatDoorLxTo
import Derived.Deep.DeepCutAuto
import Derived.Test.YtojfihfdnchkeaaGreatDoorLd
namespace Go.Proofs.YtojfihfdnchkeaaGreatDoor
open Go.RowKit Go.Shelf
attribute [local go_sem ↓] ldE_exec stE_exec ldC_exec stC_exec ldS_exec ldS_run stS_exec stS_run ldW_exec stW_exec ldR_exec stR_exec ldT_exec stT_exec ldU_exec stU_exec oc_int oc_bool oc_string oc_slice oc_pointer
theorem ConfAt.put {w : World} {b : Nat} {x x' : ConfV} (h : ConfAt w b x) (i : Nat) (v : Value) (hi : i < 2) (hc : x'.arr = x.arr.set i v (by show i < 2; exact hi)) : ConfAt (w.setCell ⟨b, i, none⟩ v) b x' := by
  unfold ConfAt
  rw [hc]
  exact set_block9 h i v _
theorem fillF {w : World} {b : Nat} {x0 : ConfV} (h : ConfAt w b x0) (p : Option Addr) (n : Nat) (c : Nat) (q : Option Addr) (m : Nat) (d : Nat) (f : Conf10) : ConfAt ((w.setCell ⟨b, 0, none⟩ (.slice p n c)).setCell ⟨b, 1, none⟩ (.slice q m d)) b ⟨⟨p, n, c⟩, ⟨q, m, d⟩, f⟩ := by
  obtain ⟨⟨p0_, n0_, c0_⟩, ⟨q0_, m0_, d0_⟩, f0_⟩ := x0
  exact ((h.put (x' := ⟨⟨p, n, c⟩, ⟨q0_, m0_, d0_⟩, f⟩) 0 _ (by decide) rfl).put (x' := ⟨⟨p, n, c⟩, ⟨q, m, d⟩, f⟩) 1 _ (by decide) rfl)

structure OwnsF (w : World) (B : Nat) (x : ConfV) : Prop where
  u : OwnsI w B (.slice x.u.p x.u.n x.u.c) x.f.vs
  v : OwnsI w B (.slice x.v.p x.v.n x.v.c) x.f.ls
  iu : inL x.f.vs
  iv : inL x.f.ls
  lu : x.f.vs.length ≤ 1000000
  lv : x.f.ls.length ≤ 1000000
theorem OwnsF.fits {w : World} {B : Nat} {x : ConfV} (h : OwnsF w B x) : FitsF w x := ⟨h.u.has, h.v.has, h.iu, h.iv, Nat.le_trans h.lu (by decide), Nat.le_trans h.lv (by decide)⟩
theorem OwnsF.mono {w : World} {B B' : Nat} {x : ConfV} (h : OwnsF w B x) (hB : B' ≤ B) : OwnsF w B' x := ⟨h.u.mono hB, h.v.mono hB, h.iu, h.iv, h.lu, h.lv⟩
theorem OwnsF.kept {w w' : World} {B r : Nat} {x : ConfV} (h : OwnsF w B x) (hg : w.grownBy w' (some r)) (hr : r < B) : OwnsF w' B x := ⟨h.u.kept10 hg hr, h.v.kept10 hg hr, h.iu, h.iv, h.lu, h.lv⟩
theorem OwnsF.below {w w' : World} {B : Nat} {x : ConfV} (h : OwnsF w B x) (hb : Below w.heap.size w w') : OwnsF w' B x := ⟨h.u.below hb (Nat.le_refl _), h.v.below hb (Nat.le_refl _), h.iu, h.iv, h.lu, h.lv⟩
theorem OwnsF.nil (w : World) (B : Nat) : OwnsF w B noFV := ⟨OwnsI.nil w B, OwnsI.nil w B, (fun _ h => by cases h), (fun _ h => by cases h), Nat.zero_le _, Nat.zero_le _⟩
theorem grown_new {w x : World} {rb b : Nat} (h : w.grownBy x (some rb)) (hb : w.heap.size ≤ b) (i : Nat) (v : Value) : w.grownBy (x.setCell ⟨b, i, none⟩ v) (some rb) := by
  have hg := grown_set x b i v
  exact ⟨hg.os.trans h.os, hg.tape.trans h.tape, hg.output.trans h.output, Nat.le_trans h.size hg.size, fun k hk hr => (hg.block k (Nat.lt_of_lt_of_le hk h.size) (by intro e; have := Option.some.inj e; omega)).trans (h.block k hk hr)⟩
theorem Rdr.cell {w0 w : World} {rb b : Nat} {S : St} (h : Rdr w0 w rb S) (hb : w0.heap.size ≤ b) (hne : rb ≠ b) (i : Nat) (v : Value) : Rdr w0 (w.setCell ⟨b, i, none⟩ v) rb S := h.set (grown_set w b i v) hb hne
theorem OwnsF.cell {w : World} {B b : Nat} {x : ConfV} (h : OwnsF w B x) (hb : b < B) (i : Nat) (v : Value) : OwnsF (w.setCell ⟨b, i, none⟩ v) B x := h.kept (grown_set w b i v) hb
theorem list10_len (m : Int) (hm : 0 ≤ m) (hm2 : m ≤ 1000000) (S : St) : (list10 m S).1.length ≤ 1000000 := by
  have := (cnt_of m hm S).2
  unfold list10
  rw [ints10_len]
  omega
theorem list10_in (m : Int) (S : St) : inL (list10 m S).1 := ints10_in _ _

set_option maxRecDepth 100000 in
set_option maxHeartbeats 2000000 in
theorem confR_any (w0 w : World) (rb : Nat) (S : St) (h : Rdr w0 w rb S) :
    Calls Tryz.prog 216 #[.pointer (some ⟨rb, 0, none⟩)] w fun e w' => ∃ X : ConfV, e = .returned (.agg X.arr) ∧ OwnsF w' w.heap.size X ∧ X.f = (conf10 9 S).1 ∧ Left10 w0 w rb (conf10 9 S).2 w' := by
  have hmf : ∀ (fn : Fn) (first cap : Array Value) (w : World), (Instr.makeFunc fn first cap).run Tryz.prog w = .ok (.func fn first cap) w := fun _ _ _ _ => rfl
  have HC : Hid (conf10 9 S = (⟨(list10 9 S).1, (list10 9 (list10 9 S).2).1⟩, (list10 9 (list10 9 S).2).2)) := rfl
  have hb1 : Below w.heap.size w (w.alloc (.cells noFV.arr 45)) := (Below.refl _ _).alloc (Nat.le_refl _) _
  have hbox : ConfAt (w.alloc (.cells noFV.arr 45)) w.heap.size noFV := heap_alloc_new w _
  have hz1 : (w.alloc (.cells noFV.arr 45)).heap.size = w.heap.size + 1 := by simp
  have hrl := h.lt
  have hwb := h.bel.size
  have k1 := listI_any w0 _ rb S (h.more hb1)
  have HI1 : Hid (inL (list10 9 S).1) := list10_in 9 S
  have HI2 : Hid (inL (list10 9 (list10 9 S).2).1) := list10_in 9 _
  have HL1 : Hid ((list10 9 S).1.length ≤ 1000000) := list10_len 9 (by decide) (by decide) S
  have HL2 : Hid ((list10 9 (list10 9 S).2).1.length ≤ 1000000) := list10_len 9 (by decide) (by decide) _
  generalize conf10 9 S = R at *
  generalize list10 9 S = A at *
  obtain ⟨l1, S1⟩ := A
  dsimp only at k1 HC HI1 HI2 HL1 HL2
  unfold noFV nilS10 at *
  unfold ConfV.arr at *
  dsimp only at *
  go_enter Tryz.func216, Tryz.ntmps216
  go_wp2_with fail
  generalize w.alloc (.cells #[.slice none 0 0, .slice none 0 0] 45) = W1 at *
  refine k1.mono ?_
  rintro e w2 ⟨p, n, c, rfl, ho2, hR2, hg2⟩
  have k2 := listI_any w0 _ rb S1 hR2
  have hbox2 := grown_box hg2 hbox (by omega)
  have hsz2 := hg2.size
  generalize list10 9 S1 = A at *
  obtain ⟨l2, S2⟩ := A
  dsimp only at k2 HC HI2 HL2
  clear k1 hbox hR2
  go_wp2_with fail
  refine k2.mono ?_
  rintro e w3 ⟨q, m, d, rfl, ho3, hR3, hg3⟩
  have hbox3 : ConfAt w3 w.heap.size ⟨⟨none, 0, 0⟩, ⟨none, 0, 0⟩, noF10⟩ := grown_box hg3 hbox2 (by omega)
  have ho2' := ho2.kept10 hg3 (by omega)
  have hG3 := grown_after hb1 (grown_trans hg2 hg3)
  obtain ⟨c0, c1⟩ := hbox3.cells
  dsimp only at c0 c1
  have hlt := box_lt hbox3
  have f0 := frozen9 hbox3
  have hO : OwnsF w3 W1.heap.size ⟨⟨p, n, c⟩, ⟨q, m, d⟩, ⟨l1, l2⟩⟩ := ⟨ho2', ho3.mono hsz2, HI1.out, HI2.out, HL1.out, HL2.out⟩
  clear k2 hbox2 ho2 ho2' ho3 hg2 hg3
  go_wp2
  have hF := fillF hbox3 p n c q m d ⟨l1, l2⟩
  have hR9 := (hR3.cell (b := w.heap.size) (by omega) (by omega) 0 (.slice p n c)).cell (b := w.heap.size) (by omega) (by omega) 1 (.slice q m d)
  have hO9 := (hO.cell (b := w.heap.size) (by omega) 0 (.slice p n c)).cell (b := w.heap.size) (by omega) 1 (.slice q m d)
  have hG9 := grown_new (grown_new hG3 (Nat.le_refl _) 0 (.slice p n c)) (Nat.le_refl _) 1 (.slice q m d)
  refine bodyPost_ret (ret_one rfl _ _ w.heap.size _ _ _ _ rfl hF Tryz.underlying45 rfl (by kernel_rfl)) rfl ⟨⟨⟨p, n, c⟩, ⟨q, m, d⟩, ⟨l1, l2⟩⟩, rfl, hO9.mono (by omega), ?_, ?_, hG9⟩
  · rw [HC.out]
  · rw [HC.out]; exact hR9

theorem byt10_isB {S : St} (h : IsB S.1) : IsB (byt10 S).1 := by
  unfold byt10
  dsimp only
  unfold getTextS
  split
  · exact IsB.nil
  · exact IsB.cut h _ _
theorem byt10_len (S : St) : (byt10 S).1.length ≤ S.1.length := (getTextS_bd S.1).2

structure RdX (w0 w wc : World) (rb : Nat) (S : St) (T : TypeId) (a z : Array Value) : Prop where
  r : Rdr w0 wc rb S
  box : wc.heap[w.heap.size + 1]? = some (.cells a T (0, 0))
  res : wc.heap[w.heap.size]? = some (.cells z T (0, 0))
  g : w.grownBy wc (some rb)
  lt : rb < w.heap.size
  le : w0.heap.size ≤ rb
theorem RdX.new {w0 w : World} {rb : Nat} {S : St} (h : Rdr w0 w rb S) (T : TypeId) (z : Array Value) : RdX w0 w ((w.alloc (.cells z T)).alloc (.cells z T)) rb S T z z := by
  have hb1 : Below w.heap.size w (w.alloc (.cells z T)) := (Below.refl _ _).alloc (Nat.le_refl _) _
  have hz1 : (w.alloc (.cells z T)).heap.size = w.heap.size + 1 := by simp
  have hb2 := (Below.refl _ (w.alloc (.cells z T))).alloc (Nat.le_refl _) (.cells z T)
  have hn := heap_alloc_new (w.alloc (.cells z T)) (.cells z T)
  rw [hz1] at hn
  exact ⟨(h.more hb1).more hb2, hn, box_below (heap_alloc_new w _) hb2, grown_after hb1 (below_grownBy hb2), h.lt.2, h.lt.1⟩
theorem RdX.left {w0 w wc wd : World} {rb : Nat} {S S' : St} {T : TypeId} {a z : Array Value} (h : RdX w0 w wc rb S T a z) (hl : Left10 w0 wc rb S' wd) : RdX w0 w wd rb S' T a z := by
  have := h.lt
  exact ⟨hl.1, grown_box hl.2 h.box (by omega), grown_box hl.2 h.res (by omega), grown_trans h.g hl.2, h.lt, h.le⟩
theorem RdX.put {w0 w wc : World} {rb : Nat} {S : St} {T : TypeId} {a z : Array Value} (h : RdX w0 w wc rb S T a z) (i : Nat) (v : Value) (hi : i < a.size) : RdX w0 w (wc.setCell ⟨w.heap.size + 1, i, none⟩ v) rb S T (a.set i v hi) z := by
  have h1 := h.lt
  have h2 := h.le
  refine ⟨h.r.cell (by omega) (by omega) i v, set_block9 h.box i v hi, ?_, grown_new h.g (by omega) i v, h.lt, h.le⟩
  exact grown_box (grown_set wc (w.heap.size + 1) i v) h.res (by omega)
theorem RdX.more {w0 w wc wd : World} {rb : Nat} {S : St} {T : TypeId} {a z : Array Value} (h : RdX w0 w wc rb S T a z) (hb : Below wc.heap.size wc wd) : RdX w0 w wd rb S T a z :=
  ⟨h.r.more hb, box_below h.box hb, box_below h.res hb, grown_trans h.g (below_grownBy hb), h.lt, h.le⟩
end Go.Proofs.YtojfihfdnchkeaaGreatDoor
