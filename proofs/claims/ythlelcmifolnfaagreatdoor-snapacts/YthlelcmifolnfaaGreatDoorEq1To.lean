import Derived.Test.YthlelcmifolnfaaGreatDoorEo1
import Derived.Test.YthlelcmifolnfaaGreatDoorLxTo
import Derived.Deep.DeepCutAuto
import Derived.Test.YthlelcmifolnfaaGreatDoorLd
import Derived.Test.YthlelcmifolnfaaGreatDoorCmR
namespace Go.Proofs.YthlelcmifolnfaaGreatDoor
open Go.RowKit Go.Shelf
attribute [local go_sem ↓] ldS_exec ldS_run stS_exec stS_run oc_int oc_bool oc_string oc_slice oc_pointer
theorem ConfAt.put {w : World} {b : Nat} {x x' : ConfV} (h : ConfAt w b x) (i : Nat) (v : Value) (hi : i < 2) (hc : x'.arr = x.arr.set i v (by show i < 2; exact hi)) : ConfAt (w.setCell ⟨b, i, none⟩ v) b x' := by
  unfold ConfAt
  rw [hc]
  exact set_block9 h i v _
theorem fillF {w : World} {b : Nat} {x0 : ConfV} (h : ConfAt w b x0) (p : Option Addr) (n : Nat) (c : Nat) (q : Option Addr) (m : Nat) (d : Nat) (f : Conf10) : ConfAt ((w.setCell ⟨b, 0, none⟩ (.slice p n c)).setCell ⟨b, 1, none⟩ (.slice q m d)) b ⟨⟨p, n, c⟩, ⟨q, m, d⟩, f⟩ := by
  obtain ⟨⟨p0_, n0_, c0_⟩, ⟨q0_, m0_, d0_⟩, f0_⟩ := x0
  exact ((h.put (x' := ⟨⟨p, n, c⟩, ⟨q0_, m0_, d0_⟩, f⟩) 0 _ (by decide) rfl).put (x' := ⟨⟨p, n, c⟩, ⟨q, m, d⟩, f⟩) 1 _ (by decide) rfl)

structure OwnsF (w : World) (B : Nat) (x : ConfV) : Prop where
  u : OwnsI w B (.slice x.u.p x.u.n x.u.c) x.f.vs
  v : OwnsI w B (.slice x.v.p x.v.n x.v.c) x.f.ls
  iu : inL x.f.vs
  iv : inL x.f.ls
  lu : x.f.vs.length ≤ 1000000
  lv : x.f.ls.length ≤ 1000000
theorem OwnsF.fits {w : World} {B : Nat} {x : ConfV} (h : OwnsF w B x) : FitsF w x := ⟨h.u.has, h.v.has, h.iu, h.iv, Nat.le_trans h.lu (by decide), Nat.le_trans h.lv (by decide)⟩
theorem OwnsF.mono {w : World} {B B' : Nat} {x : ConfV} (h : OwnsF w B x) (hB : B' ≤ B) : OwnsF w B' x := ⟨h.u.mono hB, h.v.mono hB, h.iu, h.iv, h.lu, h.lv⟩
theorem OwnsF.kept {w w' : World} {B r : Nat} {x : ConfV} (h : OwnsF w B x) (hg : w.grownBy w' (some r)) (hr : r < B) : OwnsF w' B x := ⟨h.u.kept10 hg hr, h.v.kept10 hg hr, h.iu, h.iv, h.lu, h.lv⟩
theorem OwnsF.below {w w' : World} {B : Nat} {x : ConfV} (h : OwnsF w B x) (hb : Below w.heap.size w w') : OwnsF w' B x := ⟨h.u.below hb (Nat.le_refl _), h.v.below hb (Nat.le_refl _), h.iu, h.iv, h.lu, h.lv⟩
theorem OwnsF.nil (w : World) (B : Nat) : OwnsF w B noFV := ⟨OwnsI.nil w B, OwnsI.nil w B, (fun _ h => by cases h), (fun _ h => by cases h), Nat.zero_le _, Nat.zero_le _⟩
theorem grown_new {w x : World} {rb b : Nat} (h : w.grownBy x (some rb)) (hb : w.heap.size ≤ b) (i : Nat) (v : Value) : w.grownBy (x.setCell ⟨b, i, none⟩ v) (some rb) := by
  have hg := grown_set x b i v
  exact ⟨hg.os.trans h.os, hg.tape.trans h.tape, hg.output.trans h.output, Nat.le_trans h.size hg.size, fun k hk hr => (hg.block k (Nat.lt_of_lt_of_le hk h.size) (by intro e; have := Option.some.inj e; omega)).trans (h.block k hk hr)⟩
theorem Rdr.cell {w0 w : World} {rb b : Nat} {S : St} (h : Rdr w0 w rb S) (hb : w0.heap.size ≤ b) (hne : rb ≠ b) (i : Nat) (v : Value) : Rdr w0 (w.setCell ⟨b, i, none⟩ v) rb S := h.set (grown_set w b i v) hb hne
theorem OwnsF.cell {w : World} {B b : Nat} {x : ConfV} (h : OwnsF w B x) (hb : b < B) (i : Nat) (v : Value) : OwnsF (w.setCell ⟨b, i, none⟩ v) B x := h.kept (grown_set w b i v) hb
theorem list10_len (m : Int) (hm : 0 ≤ m) (hm2 : m ≤ 1000000) (S : St) : (list10 m S).1.length ≤ 1000000 := by
  have := (cnt_of m hm S).2
  unfold list10
  rw [ints10_len]
  omega
theorem list10_in (m : Int) (S : St) : inL (list10 m S).1 := ints10_in _ _

set_option maxRecDepth 100000 in
set_option maxHeartbeats 2000000 in
theorem confR_any (w0 w : World) (rb : Nat) (S : St) (h : Rdr w0 w rb S) :
    Calls Tryz.prog 154 #[.pointer (some ⟨rb, 0, none⟩)] w fun e w' => ∃ X : ConfV, e = .returned (.agg X.arr) ∧ OwnsF w' w.heap.size X ∧ X.f = (conf10 9 S).1 ∧ Left10 w0 w rb (conf10 9 S).2 w' := by
  have hmf : ∀ (fn : Fn) (first cap : Array Value) (w : World), (Instr.makeFunc fn first cap).run Tryz.prog w = .ok (.func fn first cap) w := fun _ _ _ _ => rfl
  have HC : Hid (conf10 9 S = (⟨(list10 9 S).1, (list10 9 (list10 9 S).2).1⟩, (list10 9 (list10 9 S).2).2)) := rfl
  have hb1 : Below w.heap.size w (w.alloc (.cells noFV.arr 24)) := (Below.refl _ _).alloc (Nat.le_refl _) _
  have hbox : ConfAt (w.alloc (.cells noFV.arr 24)) w.heap.size noFV := heap_alloc_new w _
  have hz1 : (w.alloc (.cells noFV.arr 24)).heap.size = w.heap.size + 1 := by simp
  have hrl := h.lt
  have hwb := h.bel.size
  have k1 := listI_any w0 _ rb S (h.more hb1)
  have HI1 : Hid (inL (list10 9 S).1) := list10_in 9 S
  have HI2 : Hid (inL (list10 9 (list10 9 S).2).1) := list10_in 9 _
  have HL1 : Hid ((list10 9 S).1.length ≤ 1000000) := list10_len 9 (by decide) (by decide) S
  have HL2 : Hid ((list10 9 (list10 9 S).2).1.length ≤ 1000000) := list10_len 9 (by decide) (by decide) _
  generalize conf10 9 S = R at *
  generalize list10 9 S = A at *
  obtain ⟨l1, S1⟩ := A
  dsimp only at k1 HC HI1 HI2 HL1 HL2
  unfold noFV nilS10 at *
  unfold ConfV.arr at *
  dsimp only at *
  go_enter Tryz.func154, Tryz.ntmps154
  go_wp2_with fail
  generalize w.alloc (.cells #[.slice none 0 0, .slice none 0 0] 24) = W1 at *
  refine k1.mono ?_
  rintro e w2 ⟨p, n, c, rfl, ho2, hR2, hg2⟩
  have k2 := listI_any w0 _ rb S1 hR2
  have hbox2 := grown_box hg2 hbox (by omega)
  have hsz2 := hg2.size
  generalize list10 9 S1 = A at *
  obtain ⟨l2, S2⟩ := A
  dsimp only at k2 HC HI2 HL2
  clear k1 hbox hR2
  go_wp2_with fail
  refine k2.mono ?_
  rintro e w3 ⟨q, m, d, rfl, ho3, hR3, hg3⟩
  have hbox3 : ConfAt w3 w.heap.size ⟨⟨none, 0, 0⟩, ⟨none, 0, 0⟩, noF10⟩ := grown_box hg3 hbox2 (by omega)
  have ho2' := ho2.kept10 hg3 (by omega)
  have hG3 := grown_after hb1 (grown_trans hg2 hg3)
  obtain ⟨c0, c1⟩ := hbox3.cells
  dsimp only at c0 c1
  have hlt := box_lt hbox3
  have f0 := frozen9 hbox3
  have hO : OwnsF w3 W1.heap.size ⟨⟨p, n, c⟩, ⟨q, m, d⟩, ⟨l1, l2⟩⟩ := ⟨ho2', ho3.mono hsz2, HI1.out, HI2.out, HL1.out, HL2.out⟩
  clear k2 hbox2 ho2 ho2' ho3 hg2 hg3
  go_wp2
  have hF := fillF hbox3 p n c q m d ⟨l1, l2⟩
  have hR9 := (hR3.cell (b := w.heap.size) (by omega) (by omega) 0 (.slice p n c)).cell (b := w.heap.size) (by omega) (by omega) 1 (.slice q m d)
  have hO9 := (hO.cell (b := w.heap.size) (by omega) 0 (.slice p n c)).cell (b := w.heap.size) (by omega) 1 (.slice q m d)
  have hG9 := grown_new (grown_new hG3 (Nat.le_refl _) 0 (.slice p n c)) (Nat.le_refl _) 1 (.slice q m d)
  refine bodyPost_ret (ret_one rfl _ _ w.heap.size _ _ _ _ rfl hF Tryz.underlying24 rfl (by kernel_rfl)) rfl ⟨⟨⟨p, n, c⟩, ⟨q, m, d⟩, ⟨l1, l2⟩⟩, rfl, hO9.mono (by omega), ?_, ?_, hG9⟩
  · rw [HC.out]
  · rw [HC.out]; exact hR9

theorem bytes_has (w : World) (s : ByteArray) : Has (Lib.bytesWorld w 5 s) (.slice (some ⟨w.heap.size, 0, none⟩) s.size (grownCap w s.size 0 5)) (strB s) ∧ Below w.heap.size w (Lib.bytesWorld w 5 s) := by
  refine ⟨⟨some ⟨w.heap.size, 0, none⟩, _, by rw [strB_length], by rw [strB_length]; exact grownCap_ge _ _ _ _, (fun h => by cases h), fun _ => ⟨w.heap.size, 0, rfl, by rw [Lib.bytesWorld_size]; omega, fun i hi => ?_⟩⟩, ⟨rfl, rfl, rfl, by rw [Lib.bytesWorld_size]; omega, fun k hk => Lib.bytesWorld_at_old w _ s k hk⟩⟩
  rw [strB_length] at hi
  rw [Nat.zero_add, Lib.bytesWorld_cell w _ s i hi]
  unfold strB
  have hi' : i < s.data.toList.length := by rw [Array.length_toList]; exact hi
  simp [List.getD_eq_getElem?_getD, List.getElem?_eq_getElem hi']

theorem byt10_isB {S : St} (h : IsB S.1) : IsB (byt10 S).1 := by
  unfold byt10
  dsimp only
  unfold getTextS
  split
  · exact IsB.nil
  · exact IsB.cut h _ _
theorem byt10_len (S : St) : (byt10 S).1.length ≤ S.1.length := (getTextS_bd S.1).2

structure RdX (w0 w wc : World) (rb : Nat) (S : St) (T : TypeId) (a z : Array Value) : Prop where
  r : Rdr w0 wc rb S
  box : wc.heap[w.heap.size + 1]? = some (.cells a T (0, 0))
  res : wc.heap[w.heap.size]? = some (.cells z T (0, 0))
  g : w.grownBy wc (some rb)
  lt : rb < w.heap.size
  le : w0.heap.size ≤ rb
theorem RdX.new {w0 w : World} {rb : Nat} {S : St} (h : Rdr w0 w rb S) (T : TypeId) (z : Array Value) : RdX w0 w ((w.alloc (.cells z T)).alloc (.cells z T)) rb S T z z := by
  have hb1 : Below w.heap.size w (w.alloc (.cells z T)) := (Below.refl _ _).alloc (Nat.le_refl _) _
  have hz1 : (w.alloc (.cells z T)).heap.size = w.heap.size + 1 := by simp
  have hb2 := (Below.refl _ (w.alloc (.cells z T))).alloc (Nat.le_refl _) (.cells z T)
  have hn := heap_alloc_new (w.alloc (.cells z T)) (.cells z T)
  rw [hz1] at hn
  exact ⟨(h.more hb1).more hb2, hn, box_below (heap_alloc_new w _) hb2, grown_after hb1 (below_grownBy hb2), h.lt.2, h.lt.1⟩
theorem RdX.left {w0 w wc wd : World} {rb : Nat} {S S' : St} {T : TypeId} {a z : Array Value} (h : RdX w0 w wc rb S T a z) (hl : Left10 w0 wc rb S' wd) : RdX w0 w wd rb S' T a z := by
  have := h.lt
  exact ⟨hl.1, grown_box hl.2 h.box (by omega), grown_box hl.2 h.res (by omega), grown_trans h.g hl.2, h.lt, h.le⟩
theorem RdX.put {w0 w wc : World} {rb : Nat} {S : St} {T : TypeId} {a z : Array Value} (h : RdX w0 w wc rb S T a z) (i : Nat) (v : Value) (hi : i < a.size) : RdX w0 w (wc.setCell ⟨w.heap.size + 1, i, none⟩ v) rb S T (a.set i v hi) z := by
  have h1 := h.lt
  have h2 := h.le
  refine ⟨h.r.cell (by omega) (by omega) i v, set_block9 h.box i v hi, ?_, grown_new h.g (by omega) i v, h.lt, h.le⟩
  exact grown_box (grown_set wc (w.heap.size + 1) i v) h.res (by omega)
theorem RdX.more {w0 w wc wd : World} {rb : Nat} {S : St} {T : TypeId} {a z : Array Value} (h : RdX w0 w wc rb S T a z) (hb : Below wc.heap.size wc wd) : RdX w0 w wd rb S T a z :=
  ⟨h.r.more hb, box_below h.box hb, box_below h.res hb, grown_trans h.g (below_grownBy hb), h.lt, h.le⟩
theorem Rdr.rint {w0 w : World} {rb : Nat} {S : St} (h : Rdr w0 w rb S) :
    Calls Tryz.prog 157 #[.pointer (some ⟨rb, 0, none⟩)] w fun e w' => e = .returned (.int .i64 (int9 S).1) ∧ Left10 w0 w rb (int9 S).2 w' := by
  obtain ⟨v, hv⟩ := h.rd
  refine (rint_any w _ _ v _ _ hv h.inv h.isb (Nat.le_trans h.len (by decide))).mono ?_
  rintro e w' ⟨rfl, hr, hg⟩
  exact ⟨rfl, h.grow hr hg (h.inv.lose _) (loseS_isB h.isb _ _) (loseS_length _ _ _), hg⟩

theorem Rdr.rtext {w0 w : World} {rb : Nat} {S : St} (h : Rdr w0 w rb S) :
    Calls Tryz.prog 159 #[.pointer (some ⟨rb, 0, none⟩)] w fun e w' => e = .returned (.string (strOfNums (byt10 S).1)) ∧ Left10 w0 w rb (byt10 S).2 w' := by
  obtain ⟨v, hv⟩ := h.rd
  refine (rtext_any w _ _ v _ _ hv h.inv h.isb (Nat.le_trans h.len (by decide))).mono ?_
  rintro e w' ⟨rfl, hr, hg⟩
  exact ⟨rfl, h.grow hr hg (h.inv.lose _) (loseS_isB h.isb _ _) (loseS_length _ _ _), hg⟩

theorem Rdr.rcount {w0 w : World} {rb : Nat} {S : St} (h : Rdr w0 w rb S) (m : Int) (hm : m ≤ 9223372036854775807) :
    Calls Tryz.prog 233 #[.pointer (some ⟨rb, 0, none⟩), .int .i64 m] w fun e w' => e = .returned (.int .i64 (countS m S.1).1) ∧ Left10 w0 w rb (cnt10 m S).2 w' := by
  obtain ⟨v, hv⟩ := h.rd
  refine (rcount_cod m w _ _ v _ _ hv h.inv h.isb (Nat.le_trans h.len (by decide)) hm).mono ?_
  rintro e w' ⟨rfl, hr, hg⟩
  exact ⟨rfl, h.grow hr hg (h.inv.lose _) (loseS_isB h.isb _ _) (loseS_length _ _ _), hg⟩

theorem Rdr.rfin {w0 w : World} {rb : Nat} {S : St} (h : Rdr w0 w rb S) :
    Calls Tryz.prog 122 #[.pointer (some ⟨rb, 0, none⟩)] w fun e w' => e = .returned (.bool (S.1.isEmpty && !S.2)) ∧ w' = w := by
  obtain ⟨v, hv⟩ := h.rd
  exact rend_any w _ _ v _ _ hv

theorem Tell10.stays {α : Type} {f : St → α × St} {s T : St} {x : α} (h : Tell10 (f s) x T) (hs : Stays f) (hw : s.2 = true) : T.2 = true := by
  rcases h with h | ⟨h, -⟩
  · have := hs s hw
    rw [h] at this
    exact this
  · exact h
theorem ints10_wrong (T : St) {j n : Nat} (h : j ≤ n) (hw : (ints10 j T).2.2 = true) : (ints10 n T).2.2 = true := by
  induction h with
  | refl => exact hw
  | step _ ih => exact stays_int _ ih


set_option maxRecDepth 100000 in
set_option maxHeartbeats 3000000 in
theorem rlistR_any (w0 w : World) (rb : Nat) (S : St) (h : Rdr w0 w rb S) :
    Calls Tryz.prog 193 #[.pointer (some ⟨rb, 0, none⟩)] w fun e w' => ∃ (p : Option Addr) (n c : Nat) (l : List Int) (S' : St), e = .returned (.slice p n c) ∧ OwnsI w' w.heap.size (.slice p n c) l ∧ inL l ∧ l.length ≤ 1000000 ∧ Tell10 (list10 1000000 S) l S' ∧ Left10 w0 w rb S' w' := by
  obtain ⟨hn1, hn2⟩ := cnt_of 1000000 (by decide) S
  have kc := h.rcount 1000000 (by decide)
  rw [hn1] at kc
  have HL : Hid (list10 1000000 S = ints10 (cnt10 1000000 S).1 (cnt10 1000000 S).2) := rfl
  have hrl := h.lt
  generalize hN : (cnt10 1000000 S).1 = N at *
  generalize (cnt10 1000000 S).2 = T at *
  generalize list10 1000000 S = R at *
  clear hN hn1 h
  go_enter Tryz.func193, Tryz.ntmps193
  go_wp2_with fail
  refine kc.mono ?_
  rintro e w1 ⟨rfl, hR1, hg1⟩
  clear kc
  go_wp2
  go_loopw [4, 5] (fun s4 s5 wr => ∃ (j : Nat) (u : Value), u = s4 ∧ j ≤ N ∧ s5 = .int .i64 (j : Nat) ∧ OwnsI wr w.heap.size u (ints10 j T).1 ∧ Rdr w0 wr rb (ints10 j T).2 ∧ w.grownBy wr (some rb)) (fun _ s5 _ => N - (intOf s5).toNat)
  case atStart => exact ⟨0, _, rfl, Nat.zero_le _, rfl, OwnsI.nil _ _, hR1, hg1⟩
  case round =>
    clear hR1 hg1
    obtain ⟨j, u, hu, hj, rfl, ho, hR, hg⟩ := hrel
    subst hu
    have hll := ints10_len T j
    have HIn : Hid (inL (ints10 j T).1) := ints10_in T j
    have HWr : Hid ((ints10 j T).2.2 = true → R.2.2 = true) := fun h => by rw [HL.out]; exact ints10_wrong T hj h
    have HEq : Hid (j = N → R = ints10 j T) := fun h => by rw [HL.out, h]
    have HS : Hid (ints10 (j + 1) T = ((ints10 j T).1 ++ [(int9 (ints10 j T).2).1], (int9 (ints10 j T).2).2)) := rfl
    generalize ints10 j T = Q at *
    obtain ⟨l, st⟩ := Q
    dsimp only at ho hR HS hll HIn HWr HEq
    have ki := hR.rint
    obtain ⟨v0, hv0⟩ := id hR.rd
    have c1 := hv0.c1
    have hlr := hv0.lt
    by_cases hlt : j < N
    · cases hw : st.2 with
      | true =>
        rw [hw] at c1
        obtain ⟨p9, c9, hv9, -, -, -⟩ := id ho.has
        generalize hl9 : l.length = n9 at hv9
        have hl9' : l.length ≤ 1000000 := by omega
        clear hl9 ki hv0
        subst hv9
        go_wp2
        go_ret
        exact ⟨_, _, _, l, st, rfl, ho, HIn.out, hl9', .inr ⟨hw, HWr.out hw⟩, hR, hg⟩
      | false =>
        rw [hw] at c1
        have HW : Hid (st.2 = false) := hw
        generalize int9 st = A at *
        obtain ⟨z, st2⟩ := A
        dsimp only at HS ki
        have hrr := hR.lt.2
        clear hR hv0 hw
        go_wp2_with fail
        refine ki.mono ?_
        rintro e w2 ⟨rfl, hR2, hg2⟩
        have ho2 := ho.kept10 hg2 (by omega)
        have hG2 := grown_trans hg hg2
        have hsz := hG2.size
        clear ki ho hg hg2 c1 hlr
        go_wp2_with (at_builtin; refine ap_int10 _ rfl _ _ rfl w.heap.size _ _ _ rfl rfl (by exact ho2) (by omega) (by exact hsz) ?_; intro v3 w3 ho3 hb3)
        go_roundw
        case rel =>
          refine ⟨j + 1, _, rfl, by omega, by go_num, by rw [HS.out]; exact ho3, ?_, ?_⟩
          · rw [HS.out]
            obtain ⟨v', hv'⟩ := hR2.rd
            exact ⟨⟨v', hv'.below hb3 hrl.2⟩, hR2.bel.trans (hb3.mono (by have := hR2.bel.size; omega)), hR2.inv, hR2.isb, hR2.len⟩
          · exact ⟨hb3.os.trans hG2.os, hb3.tape.trans hG2.tape, hb3.output.trans hG2.output, Nat.le_trans hG2.size hb3.size, fun k hk hr => (hb3.block k hk).trans (hG2.block k hk hr)⟩
        case measure => simp only [intOf]; omega
    · obtain ⟨p9, c9, hv9, -, -, -⟩ := id ho.has
      generalize hl9 : l.length = n9 at hv9
      have hl9' : l.length ≤ 1000000 := by omega
      clear hl9 ki hv0 c1 hlr
      subst hv9
      go_wp2
      go_ret
      exact ⟨_, _, _, l, st, rfl, ho, HIn.out, hl9', .inl (HEq.out (by omega)), hR, hg⟩

set_option maxRecDepth 100000 in
set_option maxHeartbeats 3000000 in
theorem rconfR_any (w0 w : World) (rb : Nat) (S : St) (h : Rdr w0 w rb S) :
    Calls Tryz.prog 158 #[.pointer (some ⟨rb, 0, none⟩)] w fun e w' => ∃ (X : ConfV) (S' : St), e = .returned (.agg X.arr) ∧ OwnsF w' w.heap.size X ∧ Tell10 (conf10 1000000 S) X.f S' ∧ Left10 w0 w rb S' w' := by
  have h0 : RdX w0 w _ rb S 24 #[.slice none 0 0, .slice none 0 0] #[.slice none 0 0, .slice none 0 0] := RdX.new h 24 #[.slice none 0 0, .slice none 0 0]
  have HC : Hid (∀ (l1 l2 : List Int) (S1 S2 : St), Tell10 (list10 1000000 S) l1 S1 → Tell10 (list10 1000000 S1) l2 S2 → Tell10 (conf10 1000000 S) ⟨l1, l2⟩ S2) := fun l1 l2 S1 S2 t1 t2 => by
    rw [conf10_bind]
    refine Tell10.bind t1 (Tell10.bind t2 (.inl rfl) (fun _ => Stays.ret _) id) (fun _ => (stays_list _).bind fun _ => Stays.ret _) fun hw => t2.stays (stays_list _) hw
  have hrl := h.lt
  have hz1 : w.heap.size + 1 < ((w.alloc (.cells #[.slice none 0 0, .slice none 0 0] 24)).alloc (.cells #[.slice none 0 0, .slice none 0 0] 24)).heap.size := by simp
  have k1 := rlistR_any w0 _ rb S h0.r
  clear h
  go_enter Tryz.func158, Tryz.ntmps158
  go_wp2_with fail
  generalize (w.alloc (.cells #[.slice none 0 0, .slice none 0 0] 24)).alloc (.cells #[.slice none 0 0, .slice none 0 0] 24) = W0 at *
  refine k1.mono ?_
  rintro _ w2 ⟨p, n, c, l1, S1, rfl, ho2, hI1, hL1, hT1, hl2⟩
  have h1 := h0.left hl2
  have H1 : Hid (inL l1 ∧ l1.length ≤ 1000000) := ⟨hI1, hL1⟩
  have HT1 : Hid (Tell10 (list10 1000000 S) l1 S1) := hT1
  clear k1 h0 hl2 hI1 hL1 hT1
  have c0 := box_cell h1.box 0
  have fb := frozen9 h1.box
  have hlb := box_lt h1.box
  go_upto_region 3 with fail
  have h2 : RdX w0 w _ rb S1 24 #[.slice p n c, .slice none 0 0] #[.slice none 0 0, .slice none 0 0] := h1.put 0 (.slice p n c) (by show 0 < 2; omega)
  have ho3 := ho2.kept10 (grown_set w2 (w.heap.size + 1) 0 (.slice p n c)) (by omega)
  clear h1 c0 fb hlb ho2
  generalize w2.setCell ⟨w.heap.size + 1, 0, none⟩ (.slice p n c) = W2 at *
  have k2 := rlistR_any w0 _ rb S1 h2.r
  have hlb2 := box_lt h2.box
  go_wp2_with fail
  refine k2.mono ?_
  rintro _ w3 ⟨q, m, d, l2, S2, rfl, ho4, hI2, hL2, hT2, hl3⟩
  have h3 := h2.left hl3
  have ho3' := ho3.kept10 hl3.2 (by omega)
  have H2 : Hid (inL l2 ∧ l2.length ≤ 1000000) := ⟨hI2, hL2⟩
  have HT : Hid (Tell10 (conf10 1000000 S) ⟨l1, l2⟩ S2) := HC.out l1 l2 S1 S2 HT1.out hT2
  have hws := hl3.2.size
  clear k2 h2 hl3 hI2 hL2 hT2 HC HT1 ho3
  have c1 := box_cell h3.box 1
  have fb := frozen9 h3.box
  have hlb := box_lt h3.box
  go_upto_region 4 with fail
  have h4 : RdX w0 w _ rb S2 24 #[.slice p n c, .slice q m d] #[.slice none 0 0, .slice none 0 0] := h3.put 1 (.slice q m d) (by show 1 < 2; omega)
  have hO : OwnsF _ (w.heap.size + 1 + 1) ⟨⟨p, n, c⟩, ⟨q, m, d⟩, ⟨l1, l2⟩⟩ := ⟨(ho3'.kept10 (grown_set w3 (w.heap.size + 1) 1 (.slice q m d)) (by omega)).mono (by omega), (ho4.kept10 (grown_set w3 (w.heap.size + 1) 1 (.slice q m d)) (by omega)).mono (by omega), H1.out.1, H2.out.1, H1.out.2, H2.out.2⟩
  clear h3 c1 fb hlb ho3' ho4
  generalize w3.setCell ⟨w.heap.size + 1, 1, none⟩ (.slice q m d) = W4 at *
  have c0 := box_cell h4.box 0
  have c1 := box_cell h4.box 1
  have d0 := box_cell h4.res 0
  have d1 := box_cell h4.res 1
  have fb := frozen9 h4.res
  have hlb := box_lt h4.box
  have hlr := box_lt h4.res
  go_wp2
  have hF := fillF (b := w.heap.size) (x0 := noFV) h4.res p n c q m d ⟨l1, l2⟩
  have hR9 := ((((h4.r).cell (b := w.heap.size) (by omega) (by omega) 0 (.slice p n c))).cell (b := w.heap.size) (by omega) (by omega) 1 (.slice q m d))
  have hG9 := (grown_new (b := w.heap.size) (grown_new (b := w.heap.size) h4.g (by omega) 0 (.slice p n c)) (by omega) 1 (.slice q m d))
  have hO9 := ((((hO).cell (b := w.heap.size) (by omega) 0 (.slice p n c))).cell (b := w.heap.size) (by omega) 1 (.slice q m d))
  exact bodyPost_ret (ret_one rfl _ _ w.heap.size _ _ _ _ rfl hF Tryz.underlying24 rfl (by kernel_rfl)) rfl ⟨⟨⟨p, n, c⟩, ⟨q, m, d⟩, ⟨l1, l2⟩⟩, S2, rfl, hO9.mono (by omega), HT.out, hR9, hG9⟩
end Go.Proofs.YthlelcmifolnfaaGreatDoor
