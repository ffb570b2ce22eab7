import Derived.Test.YthlelcmifolnfaaGreatDoorKd6
import Derived.Test.YthlelcmifolnfaaGreatDoorDs0To
import Derived.Lib.SlBytesConst
import Derived.Test.YthlelcmifolnfaaGreatDoorKc1To
import Derived.Test.YthlelcmifolnfaaGreatDoorDs1To
import Derived.Test.YthlelcmifolnfaaGreatDoorLxTo
import Derived.Test.YthlelcmifolnfaaGreatDoorEq4To
import Derived.Test.YthlelcmifolnfaaGreatDoorKi4To
import Derived.Test.YthlelcmifolnfaaGreatDoorRef6To
import Derived.Deep.RegionHeld3
namespace Go.Proofs.YthlelcmifolnfaaGreatDoor
open Go.RowKit Go.Shelf Go.Maps
attribute [local go_sem ↓] ldS_exec stS_exec ldS_execI stS_execI ldS_run ldS_box oc_int oc_bool oc_string oc_slice oc_pointer
def plainS (i : Int) : Snap10 := ⟨i, 1, ⟨[1], []⟩, [97, 98, 99]⟩
def plainV (i : Int) (g : Nat) : SnapV := ⟨i, 1, ⟨⟨some ⟨g, 0, none⟩, 1, 1⟩, nilS10, ⟨[1], []⟩⟩, ⟨some ⟨g + 1, 0, none⟩, 3, 3⟩, [97, 98, 99]⟩
set_option maxRecDepth 100000 in
set_option maxHeartbeats 1000000 in
theorem plain_any (i : Int) (hi : inI i) (w : World) : Calls Tryz.prog 41 #[.int .i64 i] w fun e w' => e = .returned (.agg (plainV i (w.heap.size + 1)).arr) ∧ FitsS w' (plainV i (w.heap.size + 1)) ∧ Below w.heap.size w w' := by
  generalize hs : w.heap.size = s at *
  have kc := Lib.run_convert_bytes_const (P := Tryz.prog) ((w.alloc (.cells #[.int .i64 0, .int .i64 0, .slice none 0 0, .slice none 0 0, .slice none 0 0] 27)).alloc (.cells #[.int .i64 1] 3)) 25 5 #[.int .u8 97, .int .u8 98, .int .u8 99] 3 3 Tryz.underlying25 Tryz.underlying5
  obtain ⟨w3, hw3⟩ : ∃ w3, ((w.alloc (.cells #[.int .i64 0, .int .i64 0, .slice none 0 0, .slice none 0 0, .slice none 0 0] 27)).alloc (.cells #[.int .i64 1] 3)).alloc (.cells #[.int .u8 97, .int .u8 98, .int .u8 99] 5 (3, 4)) = w3 := ⟨_, rfl⟩
  have hb3 : Below s w w3 := by rw [← hw3]; exact (((Below.refl _ w).alloc (by omega) _).alloc (by simp; omega) _).alloc (by simp; omega) _
  have hz3 : w3.heap.size = s + 3 := by rw [← hw3]; simp; omega
  have r3 : w3.heap[s]? = some (.cells zeroS 27 (0, 0)) := by
    rw [← hw3, ← hs]
    exact box_below (box_below (heap_alloc_new w _) ((Below.refl _ _).alloc (Nat.le_refl _) _)) ((Below.refl _ _).alloc (Nat.le_refl _) _)
  have i3 : w3.heap[s + 1]? = some (.cells #[.int .i64 1] 3 (0, 0)) := by
    have := heap_alloc_new (w.alloc (.cells #[.int .i64 0, .int .i64 0, .slice none 0 0, .slice none 0 0, .slice none 0 0] 27)) (.cells #[.int .i64 1] 3)
    rw [World.size_alloc, hs] at this
    rw [← hw3]
    exact box_below this ((Below.refl _ _).alloc (Nat.le_refl _) _)
  have b3 : w3.heap[s + 2]? = some (.cells #[.int .u8 97, .int .u8 98, .int .u8 99] 5 (3, 4)) := by
    have := heap_alloc_new ((w.alloc (.cells #[.int .i64 0, .int .i64 0, .slice none 0 0, .slice none 0 0, .slice none 0 0] 27)).alloc (.cells #[.int .i64 1] 3)) (.cells #[.int .u8 97, .int .u8 98, .int .u8 99] 5 (3, 4))
    rw [World.size_alloc, World.size_alloc, hs] at this
    rw [← hw3]; exact this
  rw [World.size_alloc, World.size_alloc, hs] at kc
  have kc2 : (convert 25 25 (.slice (some ⟨s + 1 + 1, 0, none⟩) 3 3)).run Tryz.prog (((w.alloc (.cells #[.int .i64 0, .int .i64 0, .slice none 0 0, .slice none 0 0, .slice none 0 0] 27)).alloc (.cells #[.int .i64 1] 3)).alloc (.cells #[.int .u8 97, .int .u8 98, .int .u8 99] 5)) = .ok (.slice (some ⟨s + 1 + 1, 0, none⟩) 3 3) w3 := by rw [← hw3]; exact kc
  clear kc hw3
  have hth := there_box r3 0 5 (Nat.le_refl _)
  have hst := stS_arr (plainV i (s + 1)) hth
  have R4 : Hid ((w3.setCells s 0 (plainV i (s + 1)).arr.toList).heap[s]? = some (.cells (plainV i (s + 1)).arr 27 (0, 0))) := setS_box _ r3 rfl
  have hgr := setCells_grown s (plainV i (s + 1)).arr.toList 0 w3
  have i4 := (hgr.block (s + 1) (by omega) (by simp)).trans i3
  have b4 := (hgr.block (s + 2) (by omega) (by simp)).trans b3
  have HB4 : Hid (Below s w (w3.setCells s 0 (plainV i (s + 1)).arr.toList)) := setCells_below (Nat.le_refl _) _ _ hb3
  have HF4 : Hid (FitsS (w3.setCells s 0 (plainV i (s + 1)).arr.toList) (plainV i (s + 1))) := by
    refine ⟨hi, (show inI 1 from ⟨by decide, by decide⟩), ⟨?_, HasI.nil _, ?_, (fun _ h => by cases h), (show 1 ≤ 17592186044416 by decide), (show 0 ≤ 17592186044416 by decide)⟩, ?_, ?_, (show 3 ≤ 140737488351232 by decide)⟩
    · refine ⟨_, _, rfl, Nat.le_refl _, (fun h => by cases h), fun _ => ⟨s + 1, 0, rfl, box_lt i4, fun j hj => ?_⟩⟩
      have hj0 : j = 0 := by have : j < 1 := hj; omega
      subst hj0
      exact box_cell i4 0
    · intro z hz
      have : z = 1 := by simpa [plainV] using hz
      subst this
      exact ⟨by decide, by decide⟩
    · refine ⟨_, _, rfl, Nat.le_refl _, (fun h => by cases h), fun _ => ⟨s + 2, 0, rfl, box_lt b4, fun j hj => ?_⟩⟩
      have hj3 : j = 0 ∨ j = 1 ∨ j = 2 := by have : j < 3 := hj; omega
      rcases hj3 with rfl | rfl | rfl
      · exact box_cell b4 0
      · exact box_cell b4 1
      · exact box_cell b4 2
    · intro z hz
      have : z = 97 ∨ z = 98 ∨ z = 99 := by simpa [plainV] using hz
      omega
  have lr := box_lt r3
  clear hb3 i3 b3 i4 b4 hgr r3
  unfold plainV SnapV.arr nilS10 at hst
  dsimp only at hst
  go_enter Tryz.func41, Tryz.ntmps41
  go_wp2
  refine bodyPost_ret (ret_one rfl _ _ s _ _ _ _ rfl R4.out Tryz.underlying27 rfl (by kernel_rfl)) rfl ⟨rfl, HF4.out, HB4.out⟩
theorem okN_save12 {M : DM} {c : Nat} (h : M.OkN c) {s : Snap10} (hB : IsB s.d) : (save12 M s).2.OkN (c + 16777700) := by
  unfold save12
  split
  · exact h.mono (by omega)
  · split
    · rename_i hg
      have hfw := good_few hg.1
      have hf : FewF s.f := ⟨by omega, by omega⟩
      have o4 := st12_ok h hB hf hfw.2.2 4 (Nat.le_refl _)
      have o4' : (sav4 M s).2.OkN (c + 400) := o4
      unfold sav5
      split
      · have hl : (files12 (sav4 M s).2.listT).reverse.length ≤ 16777216 := by
          rw [List.length_reverse]
          refine Nat.le_trans (files12_len _) ?_
          unfold DM.listT
          split
          · exact Nat.zero_le _
          · show (nms (sav4 M s).2.L).length ≤ _
            unfold nms
            rw [List.length_map]
            exact o4'.inv.count
        exact (okN_drop12 _ _ o4').mono (by omega)
      · exact o4'.mono (by omega)
    · exact h.mono (by omega)
theorem HasT8.of_row12 {w w' : World} {B : Nat} {v : Value} {xs : List ByteArray} (h : w.ownsRow B 9 1 v xs.length (textsV8 xs)) (hb : Below w.heap.size w w') : HasT8 w' v xs := by
  rcases h.2 with ⟨rfl, hn⟩ | ⟨g, cap, cur, rfl, hB, hg, hnc, _, _, _⟩
  · exact ⟨none, 0, by rw [hn], by omega, fun _ => rfl, fun h0 => by omega⟩
  · refine ⟨some ⟨g, 0, none⟩, cap, rfl, hnc, (fun h0 => by cases h0), fun _ => ⟨g, 0, rfl, Nat.lt_of_lt_of_le (box_lt hg) hb.size, fun i hi => ?_⟩⟩
    have hc := World.ownsRow.cells h (g := g) rfl i (.string (xs.getD i ByteArray.empty)) (by simp [textsV8, hi, List.getD_eq_getElem?_getD])
    rw [Addr.add_lit] at hc
    exact (hb.cell (p := ⟨g, 0 + i, none⟩) (box_lt hg)).trans hc
def lS1 : DM := (save12 (DM.empty 5000) (plainS 5)).2
def lS2 : DM := (save12 lS1 (plainS 9)).2
set_option maxRecDepth 100000 in
theorem lS_errs : (save12 (DM.empty 5000) (plainS 5)).1 = 0 ∧ (save12 lS1 (plainS 9)).1 = 0 := by decide +kernel
set_option maxRecDepth 100000 in
theorem lS_load : (lod12 lS2).1.i = 9 ∧ (lod12 lS2).2.1 = true ∧ (lod12 lS2).2.2 = 0 := by decide +kernel
set_option maxRecDepth 100000 in
theorem lS_list : lS2.listT = [⟨#[115, 110, 97, 112, 45, 57]⟩] := by decide +kernel
theorem plain_isB (i : Int) : IsB (plainS i).d := by
  intro z hz
  have : z = 97 ∨ z = 98 ∨ z = 99 := by simpa [plainS] using hz
  omega
theorem lS_ok1 : lS1.OkN 16777700 := by
  have := okN_save12 (okN_empty 5000 (by decide)) (plain_isB 5)
  rw [Nat.zero_add] at this
  exact this
theorem lS_ok2 : lS2.OkN (16777700 + 16777700) := okN_save12 lS_ok1 (plain_isB 9)
theorem plain_in (i : Int) (g : Nat) {k : Nat} (h : inSn (plainV i g) k) : g ≤ k := by
  rcases h with h | h | h
  · obtain ⟨-, a, ha, rfl⟩ := h
    have : a = ⟨g, 0, none⟩ := by simpa [plainV] using ha.symm
    rw [this]
    exact Nat.le_refl _
  · exact absurd h.1 (Nat.lt_irrefl 0)
  · obtain ⟨-, a, ha, rfl⟩ := h
    have : a = ⟨g + 1, 0, none⟩ := by simpa [plainV] using ha.symm
    rw [this]
    exact Nat.le_succ _

set_option maxRecDepth 100000 in
set_option maxHeartbeats 1000000 in
theorem livesS_any (W : World) (h0 : Gl11 W) : Calls Tryz.prog 6 #[] W fun e w' => e = .returned (.bool true) ∧ Below W.heap.size W w' := by
  have kn := Disk8.new 5000 W W (by decide) (Below.refl _ _)
  have HG : Hid (Gl11 W) := h0
  clear h0
  go_enter Tryz.func6, Tryz.ntmps6
  go_wp2_with fail
  refine kn.mono ?_
  rintro _ w1 ⟨rfl, hd1, -⟩
  generalize W.heap.size + 1 = d at *
  generalize (fun k => W.heap.size ≤ k ∧ k < w1.heap.size) = S1 at *
  have kp := plain_any 5 ⟨by decide, by decide⟩ w1
  have hz1 : ∀ k, S1 k → k < w1.heap.size := fun k hk => (hd1.own k hk).2
  clear kn
  go_wp2_with fail
  refine kp.mono ?_
  rintro _ w2 ⟨rfl, hF2, hb2⟩
  have ks := saveS_any (hd1.below hb2) HG.out (okN_empty 5000 (by decide)) (by decide) (plainV 5 (w1.heap.size + 1)) hF2 (fun k hk hs => by have := plain_in _ _ hk; have := hz1 k hs; omega) (show 3 ≤ 1048576 by decide)
  have e1 : (save12 (DM.empty 5000) (plainV 5 (w1.heap.size + 1)).s).1 = 0 := lS_errs.1
  rw [e1] at ks
  have ks2 := ks.mono (R' := fun e w' => e = .returned (.int .i64 0) ∧ Hid (∃ S, Disk8 W w' d S lS1)) fun e w' he => ⟨he.1, _, he.2.1⟩
  generalize (plainV 5 (w1.heap.size + 1)).arr = pa at *
  clear kp ks e1 hF2 hd1 hz1 hb2
  go_wp2_with fail
  refine ks2.mono ?_
  rintro _ w3 ⟨rfl, hS3⟩
  obtain ⟨S3, hd3⟩ := hS3.out
  have kp := plain_any 9 ⟨by decide, by decide⟩ w3
  have hz3 : ∀ k, S3 k → k < w3.heap.size := fun k hk => (hd3.own k hk).2
  clear ks2 hS3
  go_wp2_with fail
  refine kp.mono ?_
  rintro _ w4 ⟨rfl, hF4, hb4⟩
  have ks := saveS_any (hd3.below hb4) HG.out lS_ok1 (by decide) (plainV 9 (w3.heap.size + 1)) hF4 (fun k hk hs => by have := plain_in _ _ hk; have := hz3 k hs; omega) (show 3 ≤ 1048576 by decide)
  have e1 : (save12 lS1 (plainV 9 (w3.heap.size + 1)).s).1 = 0 := lS_errs.2
  rw [e1] at ks
  have ks2 := ks.mono (R' := fun e w' => e = .returned (.int .i64 0) ∧ Hid (∃ S, Disk8 W w' d S lS2)) fun e w' he => ⟨he.1, _, he.2.1⟩
  generalize (plainV 9 (w3.heap.size + 1)).arr = pb at *
  clear kp ks e1 hF4 hd3 hz3 hb4
  go_wp2_with fail
  refine ks2.mono ?_
  rintro _ w5 ⟨rfl, hS5⟩
  obtain ⟨S5, hd5⟩ := hS5.out
  have kl := loadS_any hd5 HG.out lS_ok2.inv
  obtain ⟨g1, g2, g3⟩ := lS_load
  have HYi : Hid ((lod12 lS2).1.i = 9) := g1
  rw [g2, g3] at kl
  clear ks2 hS5 g1 g2 g3
  go_wp2_with fail
  refine kl.mono ?_
  rintro _ w6 ⟨Y, rfl, hY, hO, hb6⟩
  have hbx := heap_alloc_new w6 (.cells #[.int .i64 0, .int .i64 0, .slice none 0 0, .slice none 0 0, .slice none 0 0] 27)
  have hth := there_box hbx 0 5 (Nat.le_refl _)
  have hst := stS_arr Y hth
  have hb7 : Below w6.heap.size w6 ((w6.alloc (.cells #[.int .i64 0, .int .i64 0, .slice none 0 0, .slice none 0 0, .slice none 0 0] 27)).setCells w6.heap.size 0 Y.arr.toList) := setCells_below (Nat.le_refl _) _ _ ((Below.refl _ _).alloc (Nat.le_refl _) _)
  have hy7 : SnapAt ((w6.alloc (.cells #[.int .i64 0, .int .i64 0, .slice none 0 0, .slice none 0 0, .slice none 0 0] 27)).setCells w6.heap.size 0 Y.arr.toList) w6.heap.size Y := setS_box Y hbx rfl
  have cy : ((w6.alloc (.cells #[.int .i64 0, .int .i64 0, .slice none 0 0, .slice none 0 0, .slice none 0 0] 27)).setCells w6.heap.size 0 Y.arr.toList).cell? ⟨w6.heap.size, 0, none⟩ = some (.int .i64 9) := by
    rw [(SnapAt.cells hy7).1, ← HYi.out, ← hY]
    rfl
  have ly := box_lt hy7
  have hd7 := (hd5.below hb6).below hb7
  have kL := list_any hd7.at8 lS_ok2.inv
  rw [lS_list] at kL
  have HB7 : Hid (Below W.heap.size W ((w6.alloc (.cells #[.int .i64 0, .int .i64 0, .slice none 0 0, .slice none 0 0, .slice none 0 0] 27)).setCells w6.heap.size 0 Y.arr.toList)) := hd7.bel
  clear kl hbx hth hb7 hy7 hd7 hd5 hb6 hO hY
  go_wp2_with fail
  refine kL.mono ?_
  rintro _ w8 ⟨⟨v8, rfl, ho8⟩, hb8⟩
  have hb9 : Below w8.heap.size w8 (w8.alloc (.cells #[.string ⟨#[115, 110, 97, 112, 45, 57]⟩] 9)) := (Below.refl _ _).alloc (Nat.le_refl _) _
  have hB9 := heap_alloc_new w8 (.cells #[.string ⟨#[115, 110, 97, 112, 45, 57]⟩] 9)
  have kt := texts8 v8 (.slice (some ⟨w8.heap.size, 0, none⟩) 1 1) [⟨#[115, 110, 97, 112, 45, 57]⟩] [⟨#[115, 110, 97, 112, 45, 57]⟩] (w8.alloc (.cells #[.string ⟨#[115, 110, 97, 112, 45, 57]⟩] 9)) (HasT8.of_row12 ho8 hb9) ⟨_, _, rfl, Nat.le_refl _, (fun h => by cases h), fun _ => ⟨w8.heap.size, 0, rfl, box_lt hB9, fun i hi => by
    have hi0 : i = 0 := by have : i < 1 := hi; omega
    subst hi0
    exact box_cell hB9 0⟩⟩ (by decide) (by decide)
  rw [decide_eq_true rfl] at kt
  have HB8 : Hid (Below W.heap.size W (w8.alloc (.cells #[.string ⟨#[115, 110, 97, 112, 45, 57]⟩] 9))) := HB7.out.trans ((hb8.trans (hb9.mono hb8.size)).mono HB7.out.size)
  clear kL ho8 hb8 hb9 hB9 cy hst
  go_wp2_with fail
  refine kt.mono ?_
  rintro _ w9 ⟨rfl, hb9⟩
  have HB9 : Hid (Below W.heap.size W w9) := HB8.out.trans (hb9.mono HB8.out.size)
  clear kt hb9
  go_wp2
  go_ret
  exact ⟨rfl, HB9.out⟩
theorem livesS_all {w : World} (h : Gl11 w) : ∀ V, Below w.heap.size w V → Calls Tryz.prog 6 #[] V fun e w' => e = .returned (.bool true) ∧ Below V.heap.size V w' := fun V hb => livesS_any V (h.below hb (Nat.le_refl _))
end Go.Proofs.YthlelcmifolnfaaGreatDoor

namespace Go.Proofs.YthlelcmifolnfaaGreatDoor
open Go.RowKit Go.Shelf
def GrE (FM : Prop) (w : World) (e : Ending) (w' : World) : Prop := ∃ r : Bool, e = .returned (.bool r) ∧ (r = false → FM) ∧ Below w.heap.size w w'
set_option maxRecDepth 100000 in
set_option maxHeartbeats 3000000 in
theorem greatS_any (x : SnapV) (w : World) (hF : FitsS w x) : Calls Tryz.prog 5 #[.agg x.arr] w (GrE (x.d.length ≤ 20000) w) := by
  have hb1 : Below w.heap.size w (w.alloc (.cells x.arr 27)) := (Below.refl _ _).alloc (Nat.le_refl _) _
  have hd := hF.w.len.1
  have hn := hF.f.u.len.1
  have hm := hF.f.v.len.1
  have ld := hF.l
  have ln := hF.f.lu
  have lm := hF.f.lv
  rw [hd] at ld
  rw [hn] at ln
  rw [hm] at lm
  have HF : Hid (x.w.n ≤ 20000 → x.d.length ≤ 20000) := fun h => by omega
  clear hF hd hn hm
  generalize (x.d.length ≤ 20000) = FM at *
  obtain ⟨i, t, ⟨⟨p, n, c⟩, ⟨q, m, d⟩, f⟩, ⟨a', b', e'⟩, dd⟩ := x
  unfold SnapV.arr at *
  dsimp only at *
  by_cases hg : 20000 < b'
  · go_enter Tryz.func5, Tryz.ntmps5
    go_wp2
    go_ret
    exact ⟨_, rfl, (fun h => by cases h), hb1⟩
  · have hg' : ¬ (20000 : Int) < (b' : Int) := by omega
    go_enter Tryz.func5, Tryz.ntmps5
    go_wp2
    go_ret
    exact ⟨_, rfl, (fun _ => HF.out (by omega)), hb1⟩
end Go.Proofs.YthlelcmifolnfaaGreatDoor

namespace Go.Proofs.YthlelcmifolnfaaGreatDoor
open Go.RowKit Go.Shelf Go.Maps
attribute [local go_sem ↓] ldS_exec stS_exec ldS_execI stS_execI ldS_run ldS_box oc_int oc_bool oc_string oc_slice oc_pointer
theorem lay12 (w : World) (Y : SnapV) (hF : FitsS w Y) : ∃ w', (w.alloc (.cells #[.int .i64 0, .int .i64 0, .slice none 0 0, .slice none 0 0, .slice none 0 0] 27)).setCells w.heap.size 0 Y.arr.toList = w' ∧ Below w.heap.size w w' ∧ SnapAt w' w.heap.size Y ∧ FitsS w' Y := by
  have hbx := heap_alloc_new w (.cells #[.int .i64 0, .int .i64 0, .slice none 0 0, .slice none 0 0, .slice none 0 0] 27)
  have hb : Below w.heap.size w ((w.alloc (.cells #[.int .i64 0, .int .i64 0, .slice none 0 0, .slice none 0 0, .slice none 0 0] 27)).setCells w.heap.size 0 Y.arr.toList) := setCells_below (Nat.le_refl _) _ _ ((Below.refl _ _).alloc (Nat.le_refl _) _)
  exact ⟨_, rfl, hb, setS_box Y hbx rfl, hF.below hb⟩

def TrE (W : World) (e : Ending) (w' : World) : Prop := e = .returned (.bool true) ∧ Below W.heap.size W w'

theorem RowC.at {w : World} {B : Nat} {s : Sl10} {ys : List (Sl10 × List Int)} (h : RowC w B s ys) {j : Nat} (hj : j < ys.length) : ∃ g, s.p = some ⟨g, 0, none⟩ ∧ s.n = ys.length ∧ s.n ≤ s.c ∧ g < w.heap.size ∧ ∃ y : Sl10 × List Int, ys[j]? = some y ∧ w.cell? ⟨g, j, none⟩ = some (.slice y.1.p y.1.n y.1.c) ∧ y ∈ ys := by
  rcases h.row.2 with ⟨hv, hn⟩ | ⟨g, cap, cur, hv, hB, hg, hnc, _, _, _⟩
  · omega
  · have hv' := hv
    simp only [Value.slice.injEq] at hv
    obtain ⟨e1, e2, e3⟩ := hv
    refine ⟨g, e1, e2, by omega, box_lt hg, ys[j], List.getElem?_eq_getElem hj, ?_, List.getElem_mem hj⟩
    have hc := World.ownsRow.cells h.row (g := g) (by rw [hv']; rfl) j (slV ys[j]) (by simp [hj])
    rw [Addr.add_lit, Nat.zero_add] at hc
    exact hc
theorem RowC.num {w : World} {B : Nat} {s : Sl10} {ys : List (Sl10 × List Int)} (h : RowC w B s ys) : s.n = ys.length := by
  rcases h.row.2 with ⟨hv, hn⟩ | ⟨g, cap, cur, hv, hB, hg, hnc, _, _, _⟩
  · simp only [Value.slice.injEq] at hv; omega
  · simp only [Value.slice.injEq] at hv; omega
theorem chs_len12 {s : Snap10} : (chs12 s).flatten.length ≤ 1300000 ∧ (chs12 s).length ≤ 1000000 := by
  unfold chs12
  by_cases hg : goodS10 s = true
  · rw [if_pos hg]
    have hfw := good_few hg
    have hsb := snapB_big (s := s) ⟨by omega, by omega⟩ hfw.2.2
    have hwl := whole_len s
    have hhl := head_len s (snapB s)
    have hnp : npiece12 (snapB s) ≤ 1000 := by unfold npiece12; omega
    have hca := (chunks_at s).1
    exact ⟨by show (whole12 s).length ≤ _; omega, by omega⟩
  · rw [if_neg hg]
    exact ⟨Nat.zero_le _, Nat.zero_le _⟩

set_option maxRecDepth 100000 in
set_option maxHeartbeats 1000000 in
theorem rwhole12_any (x : SnapV) (w : World) (hF : FitsS w x) (hd : x.d.length ≤ 1048576) : Calls Tryz.prog 57 #[.agg x.arr] w (Outs w (chs12 x.s).flatten) := by
  have hb1 : Below w.heap.size w (w.alloc (.cells x.arr 27)) := (Below.refl _ _).alloc (Nat.le_refl _) _
  have hx1 : SnapAt (w.alloc (.cells x.arr 27)) w.heap.size x := heap_alloc_new w _
  have hl1 := ldS_box _ _ _ _ _ hx1 rfl
  have kc := rchunksP_any x _ (hF.below hb1) hd
  obtain ⟨hcl, hcn⟩ := @chs_len12 x.s
  have HB1 : Hid _ := hb1
  clear hx1 hF hb1
  go_enter Tryz.func57, Tryz.ntmps57
  go_wp2_with fail
  refine kc.mono ?_
  rintro _ w4 ⟨l, ys, rfl, hys, hrow, hb4⟩
  have HB4 : Hid (Below w.heap.size w w4) := HB1.out.trans (hb4.mono HB1.out.size)
  have HR4 : Hid (RowC w4 _ l ys) := hrow
  have hln := hrow.num
  have HY : Hid (ys.map Prod.snd = chs12 x.s) := hys
  rw [← hys] at hcl hcn
  rw [List.length_map] at hcn
  generalize chs12 x.s = cs at *
  have HYf : Hid (cs.flatten = (ys.map Prod.snd).flatten) := by rw [Hid, HY.out]
  obtain ⟨i0, hi8, hi0, hi1, hi2⟩ := info_parts info8c
  clear kc hl1 hb4 hrow hys HY
  go_wp2
  go_loopw [3, 9] (fun s8 s34 wr => ∃ (j : Nat) (pb : Option Addr) (nb cb : Nat), s8 = .slice pb nb cb ∧ s34 = .int .i64 (j : Nat) ∧ j ≤ ys.length ∧ Hid (Owns wr w4.heap.size 5 (.slice pb nb cb) ((ys.map Prod.snd).take j).flatten) ∧ Below w4.heap.size w4 wr) (fun _ s34 _ => ys.length - (intOf s34).toNat)
  case atStart => exact ⟨0, none, 0, 0, rfl, rfl, Nat.zero_le _, Owns.nil w4 w4.heap.size _, Below.refl _ _⟩
  case round =>
    obtain ⟨j, pb, nb, cb, rfl, rfl, hj, HO, hb⟩ := hrel
    by_cases hjn : j < ys.length
    · obtain ⟨g, hp, hn, hc, hgl, ⟨yl, yb⟩, hyj, hcell, hym⟩ := (HR4.out.below hb).at hjn
      dsimp only at hcell hn hc
      have hhas : Has wr (.slice yl.p yl.n yl.c) yb := (HR4.out.below hb).has _ hym
      have hmj : (ys.map Prod.snd)[j]? = some yb := by rw [List.getElem?_map, hyj]; rfl
      have HN : Hid (((ys.map Prod.snd).take (j + 1)).flatten = ((ys.map Prod.snd).take j).flatten ++ yb) := by
        rw [Hid, List.take_add_one, hmj, List.flatten_append]
        simp
      have hf1 := flat_pre12 (List.take_prefix (j + 1) (ys.map Prod.snd))
      rw [HN.out, List.length_append] at hf1
      have A1 : ((ys.map Prod.snd).take j).flatten.length ≤ 1099511627776 := by omega
      have A2 : yb.length ≤ 1099511627776 := by omega
      have hzb := hb.size
      have hO := HO.out
      generalize ((ys.map Prod.snd).take j).flatten = xs at *
      rw [hp] at *
      clear HO hmj hyj hym hf1
      go_wp2_with (at_builtin; refine ap_slice _ rfl _ _ 25 rfl w4.heap.size 5 i0 Tryz.underlying25 hi8 hi0 hi1 hi2 (.slice pb nb cb) xs yb rfl hhas hO A1 A2 hzb ?_; intro v' w' ho' hb'; refine Halt8.out ?_)
      obtain ⟨s', rfl, -⟩ := ho'.slice12
      have HO3 : Hid (Owns w' w4.heap.size 5 (.slice s'.p s'.n s'.c) ((ys.map Prod.snd).take (j + 1)).flatten) := by rw [Hid, HN.out]; exact ho'
      have HB3 : Hid (Below w4.heap.size w4 w') := hb.trans hb'
      clear ho' hb' hO hhas hcell HN
      constructor
      go_wp2
      go_roundw
      case rel => exact ⟨j + 1, s'.p, s'.n, s'.c, rfl, by go_num, by omega, HO3, HB3.out⟩
      case measure => simp only [intOf]; omega
    · obtain rfl : j = ys.length := by omega
      have hO0 := HO.out
      rw [List.take_of_length_le (by rw [List.length_map]; exact Nat.le_refl _), ← HYf.out] at hO0
      have HE : Hid (Outs w cs.flatten (.returned (.slice pb nb cb)) wr) := ⟨_, rfl, hO0.has, HB4.out.trans (hb.mono HB4.out.size)⟩
      clear HO hO0
      go_wp2
      go_ret
      exact HE.out
end Go.Proofs.YthlelcmifolnfaaGreatDoor

namespace Go.Proofs.YthlelcmifolnfaaGreatDoor
open Go.RowKit Go.Shelf Go.Maps
attribute [local go_sem ↓] ldS_exec stS_exec ldS_execI stS_execI ldS_run ldS_box oc_int oc_bool oc_string oc_slice oc_pointer
attribute [local go_sem ↓] slF_exec slF_execI
theorem take_no12 {P : Program} {ops : Array Oper} {Q : Exit → Act → World → Prop} {md : Region.Mode} {S : World → Prop} {fuel : Nat} {listed : Array Bool} {a : Act} {w : World} (i : Nat) (d : Option Tmp) {oi : Oper} (hi : ops[i]? = some oi) (hd : oi.dst = d)
    (hs : Region.noSelect ops = true) (hf : Region.free md ops listed i = true) (hr : (Region.ready md ops listed).contains i = true)
    (hQ : ∀ c a w, Q (.panic c) (a.put d undef) w → Q (.panic c) a w) (hw : Region.wanted oi (yielded ops a.tmps) = false) (hS : S w)
    (h : wpAnyH P md ops Q S fuel (listed.setIfInBounds i true) (a.put d undef) w) : wpAnyH P md ops Q S (fuel + 1) listed a w := by
  subst hd
  exact wpAnyH_take hi hs hf hr hQ (Or.inr ⟨hw, rfl⟩) hS h
theorem take_yes12 {P : Program} {ops : Array Oper} {Q : Exit → Act → World → Prop} {md : Region.Mode} {S : World → Prop} {fuel : Nat} {listed : Array Bool} {a : Act} {w : World} (i : Nat) (d : Option Tmp) (v : Value) {oi : Oper} (hi : ops[i]? = some oi) (hd : oi.dst = d)
    (hs : Region.noSelect ops = true) (hf : Region.free md ops listed i = true) (hr : (Region.ready md ops listed).contains i = true)
    (hQ : ∀ c a w, Q (.panic c) (a.put d v) w → Q (.panic c) a w) (hw : Region.wanted oi (yielded ops a.tmps) = true) (hy : ∀ w, S w → (execOp a.eval oi).run P w = .ok (.value v) w) (hS : S w)
    (h : wpAnyH P md ops Q S fuel (listed.setIfInBounds i true) (a.put d v) w) : wpAnyH P md ops Q S (fuel + 1) listed a w := by
  subst hd
  exact wpAnyH_take hi hs hf hr hQ (Or.inl ⟨hw, hy⟩) hS h
theorem ldS_take12 {ρ : Operand → Value} {d : Option Tmp} {x : Operand} {t : TypeId} {p : String} {af : Array Edge} {g : Option (Nat × Bool)} {W : World} {v : Value} (h : (ldS (ρ x)).run Tryz.prog W = .ok v W) : (execOp ρ { dst := d, op := .load 27 x, type := t, pos := p, after := af, guard := g }).run Tryz.prog W = .ok (.value v) W := by
  rw [ldS_exec, h]
  rfl
theorem whole_chs12 {s : Snap10} (hg : goodS10 s = true) : (chs12 s).flatten = whole12 s := by
  unfold chs12
  rw [if_pos hg]
  rfl
theorem Read12.few {b : List Int} {l : List (List Int)} {k : Nat} (h : Read12 b l k) : l.length ≤ k ∧ (l.drop 1).flatten.length ≤ k := by
  rw [h.sum]
  clear h
  have h1 : l.flatten.length ≤ (l.map fun c => c.length + 8).sum ∧ l.length ≤ (l.map fun c => c.length + 8).sum := by
    induction l with
    | nil => exact ⟨Nat.le_refl _, Nat.le_refl _⟩
    | cons c l ih =>
      rw [List.flatten_cons, List.length_append, List.map_cons, List.sum_cons, List.length_cons]
      omega
  have h2 : (l.drop 1).flatten.length ≤ l.flatten.length := by
    cases l with
    | nil => exact Nat.le_refl _
    | cons c l =>
      rw [List.flatten_cons, List.length_append, List.drop_one, List.tail_cons]
      omega
  omega
theorem drop_snoc12 {l : List (List Int)} (c : List Int) (h : 0 < l.length) : ((l ++ [c]).drop 1).flatten = (l.drop 1).flatten ++ c := by
  rw [List.drop_append_of_le_length (by omega), List.flatten_append]
  simp
theorem chs_isB12' {s : Snap10} (h : IsB s.d) : ∀ c ∈ chs12 s, IsB c := by
  intro c hc
  unfold chs12 at hc
  by_cases hg : goodS10 s = true
  · rw [if_pos hg] at hc
    exact fun z hz => by have := chunks_isB12 (s := s) h c hc z hz; omega
  · rw [if_neg hg] at hc
    cases hc
def JoE (w : World) (xs : List Int) (e : Ending) (w' : World) : Prop := ∃ Y : SnapV, e = .returned (.tuple #[.agg Y.arr, .int .i64 (join12 xs).2]) ∧ Y.s = (join12 xs).1 ∧ LiesS w' w.heap.size Y ∧ Below w.heap.size w w'

set_option maxRecDepth 100000 in
set_option maxHeartbeats 1000000 in
theorem rjoin12_any (s0 : Sl10) (xs : List Int) (w : World) (hv : Has w (.slice s0.p s0.n s0.c) xs) (hB : IsB xs) (hl : xs.length ≤ 1073741824) : Calls Tryz.prog 11 #[.slice s0.p s0.n s0.c] w (JoE w xs) := by
  generalize hs : w.heap.size = s at *
  obtain ⟨w1, hw1⟩ : ∃ w1, w.alloc (.cells #[.int .i64 0, .int .i64 0, .slice none 0 0, .slice none 0 0, .slice none 0 0] 27) = w1 := ⟨_, rfl⟩
  have hb1 : Below s w w1 := by rw [← hw1]; exact (Below.refl _ w).alloc (by omega) _
  have hz1 : w1.heap.size = s + 1 := by rw [← hw1]; simp; omega
  have b1 : w1.heap[s]? = some (.cells zeroS 27 (0, 0)) := by rw [← hw1, ← hs]; exact heap_alloc_new w _
  have hv1 : Has w1 (.slice s0.p s0.n s0.c) xs := hv.below (by rw [hs]; exact hb1) (Nat.le_refl _)
  obtain ⟨hsn, hsc, -⟩ := hv.sl12
  have HS : Hid (w.heap.size = s) := hs
  have HB1 : Hid (Below s w w1) := hb1
  have HV1 : Hid (Has w1 (.slice s0.p s0.n s0.c) xs) := hv1
  have HBy : Hid (IsB xs) := hB
  have HR1 : Hid (w1.heap[s]? = some (.cells zeroS 27 (0, 0))) := b1
  have HJ : Hid (join12 xs = if (readS12 (data12 xs)).2 = 0 ∧ whole12 (readS12 (data12 xs)).1 = xs then ((readS12 (data12 xs)).1, 0) else (noS10, 8)) := rfl
  have HSn : Hid (s0.n = xs.length) := hsn
  -- how a call ends that tells nothing
  have HNE : Hid (join12 xs = (noS10, 8) → ∀ V : World, Below w1.heap.size w1 V → (stS (.pointer (some ⟨s, 0, none⟩)) (.agg #[.int .i64 0, .int .i64 0, .slice none 0 0, .slice none 0 0, .slice none 0 0])).run Tryz.prog V = .ok () (V.setCells s 0 noSV.arr.toList) ∧ s < V.heap.size ∧ (V.setCells s 0 noSV.arr.toList).heap[s]? = some (.cells noSV.arr 27 (0, 0)) ∧ JoE w xs (.returned (.tuple #[.agg noSV.arr, .int .i64 8])) (V.setCells s 0 noSV.arr.toList)) := fun hj V hV => by
    have hr := box_below HR1.out hV
    refine ⟨stS_arr noSV (there_box hr 0 5 (Nat.le_refl _)), box_lt hr, setS_box noSV hr rfl, noSV, by rw [hj], by rw [hj]; rfl, LiesS.nil _ _, ?_⟩
    rw [HS.out]
    exact setCells_below (Nat.le_refl _) _ _ (HB1.out.trans (hV.mono (by omega)))
  obtain ⟨i0, hi8, hi0, hi1, hi2⟩ := info_parts info8c
  clear hv hv1 hB b1 hb1 hsn
  go_enter Tryz.func11, Tryz.ntmps11
  go_wp2
  go_loopw [4, 5, 6] (fun s4 s5 s6 wr => ∃ (k i : Nat) (l : List (List Int)) (sd : Sl10), s4 = .slice sd.p sd.n sd.c ∧ s5 = .int .i64 (k : Nat) ∧ s6 = .int .i64 (i : Nat) ∧ k ≤ xs.length ∧ i ≤ k ∧ Hid (l.length = i) ∧ Hid (Read12 xs l k) ∧ Hid (Owns wr w1.heap.size 5 (.slice sd.p sd.n sd.c) (l.drop 1).flatten) ∧ Below w1.heap.size w1 wr) (fun _ s5 _ _ => xs.length - (intOf s5).toNat)
  case atStart => exact ⟨0, 0, [], nilS10, rfl, rfl, rfl, Nat.zero_le _, Nat.le_refl _, rfl, Read12.zero xs, Owns.nil w1 w1.heap.size _, Below.refl _ _⟩
  case round =>
    obtain ⟨k, i, l, sd, rfl, rfl, rfl, hk, hik, HL, HR, HO, hb⟩ := hrel
    have hvr := HV1.out.below hb (Nat.le_refl _)
    have hn0 : s0.n ≤ 1073741824 := by have := HSn.out; omega
    have hnk : k ≤ s0.n := by have := HSn.out; omega
    by_cases hkn : k < s0.n
    · have hsl := slF_at12 hvr (lo := k) (by omega)
      obtain ⟨s', hcv, hcut, -⟩ := hvr.cut12 (lo := k) (by omega)
      rw [hcv] at hsl
      have ku := runframe_any _ (xs.drop k) wr hcut (by rw [List.length_drop]; omega) (fun z hz => HBy.out z (List.mem_of_mem_drop hz))
      obtain ⟨hun, hul⟩ := unframe_nat (xs.drop k)
      rw [hun] at ku
      by_cases hu : (unframeS (xs.drop k)).2.2 = 0
      · have HRn : Hid (Read12 xs (l ++ [(unframeS (xs.drop k)).1]) (k + (unframeS (xs.drop k)).2.1.toNat)) := HR.out.step hu
        have hl8 := unframe_len hu
        have HF : Hid _ := HR.out.few
        have hfl := HR.out.few.2
        rw [hu] at ku
        rw [List.length_drop] at hul hl8
        generalize (unframeS (xs.drop k)).2.1.toNat = n at *
        generalize (unframeS (xs.drop k)).1 = c at *
        have hn8 : 8 ≤ n ∧ c.length ≤ n ∧ k + n ≤ xs.length := by omega
        clear hl8 hul hun hu hcut hcv
        by_cases hii : i = 0
        · subst hii
          have HLn : Hid (l = []) := List.eq_nil_of_length_eq_zero HL.out
          go_wp2_with fail
          refine ku.mono ?_
          rintro _ w2 ⟨v2, rfl, -, hb2⟩
          have HO2 : Hid (Owns w2 w1.heap.size 5 (.slice sd.p sd.n sd.c) ((l ++ [c]).drop 1).flatten) := by
            have h := HO.out.below hb2 (Nat.le_refl _)
            rw [HLn.out] at h ⊢
            exact h
          have HB2 : Hid (Below w1.heap.size w1 w2) := hb.trans (hb2.mono hb.size)
          clear ku hsl hb2 HO hvr
          go_wp2
          go_roundw
          case rel => exact ⟨k + n, 1, l ++ [c], sd, rfl, by go_num, by go_num, by omega, by omega, by rw [HLn.out]; rfl, HRn, HO2, HB2.out⟩
          case measure => simp only [intOf]; omega
        · have hii' : 0 < i := by omega
          go_wp2_with fail
          refine ku.mono ?_
          rintro _ w2 ⟨v2, rfl, hv2, hb2⟩
          have hO := HO.out.below hb2 (Nat.le_refl _)
          have HB2 : Hid (Below w1.heap.size w1 w2) := hb.trans (hb2.mono hb.size)
          have hzb := HB2.out.size
          have A1 : (l.drop 1).flatten.length ≤ 1099511627776 := by omega
          have A2 : c.length ≤ 1099511627776 := by omega
          have HDs : Hid (((l ++ [c]).drop 1).flatten = (l.drop 1).flatten ++ c) := drop_snoc12 c (by rw [HL.out]; omega)
          have HLs : Hid ((l ++ [c]).length = i + 1) := by rw [Hid, List.length_append, HL.out]; rfl
          generalize (l.drop 1).flatten = ds at *
          generalize l ++ [c] = l' at *
          clear ku hsl hb2 HO hvr
          go_wp2_with (at_builtin; refine ap_slice _ rfl _ _ 25 rfl w1.heap.size 5 i0 Tryz.underlying25 hi8 hi0 hi1 hi2 (.slice sd.p sd.n sd.c) ds c rfl hv2 hO A1 A2 hzb ?_; intro v3 w3 ho3 hb3; refine Halt8.out ?_)
          obtain ⟨s3, rfl, -⟩ := ho3.slice12
          have HO3 : Hid (Owns w3 w1.heap.size 5 (.slice s3.p s3.n s3.c) (l'.drop 1).flatten) := by rw [Hid, HDs.out]; exact ho3
          have HB3 : Hid (Below w1.heap.size w1 w3) := HB2.out.trans hb3
          clear ho3 hb3 hO hv2
          constructor
          go_wp2
          go_roundw
          case rel => exact ⟨k + n, i + 1, l', s3, rfl, by go_num, by go_num, by omega, by omega, HLs, HRn, HO3, HB3.out⟩
          case measure => simp only [intOf]; omega
      · have hj := HR.out.bad (by have := HSn.out; omega) hu
        have hu' : ((unframeS (xs.drop k)).2.2 != 0) = true := by simpa using hu
        generalize (unframeS (xs.drop k)).2.2 = ue at *
        generalize (unframeS (xs.drop k)).2.1.toNat = n at *
        generalize (unframeS (xs.drop k)).1 = c at *
        clear hcut hcv hul hun
        go_wp2_with fail
        refine ku.mono ?_
        rintro _ w2 ⟨v2, rfl, -, hb2⟩
        obtain ⟨hst, hlt, hbx, hE⟩ := HNE.out hj w2 (hb.trans (hb2.mono hb.size))
        have HE : Hid _ := hE
        have HBx : Hid _ := hbx
        clear ku hsl hb2 HO hvr hbx hE
        go_wp2
        refine bodyPost_ret (ret_cell9 rfl _ _ s _ _ _ _ rfl HBx.out Tryz.underlying27 rfl (by kernel_rfl)) rfl ?_
        exact HE.out
    · obtain rfl : k = s0.n := by omega
      have hdn : Read12 xs l xs.length := by
        have h := HR.out
        rw [HSn.out] at h
        exact h
      have hdd := hdn.done
      have hO := HO.out
      rw [hdd] at hO
      have hdl0 : (data12 xs).length ≤ xs.length := by
        have h := hdn.few.2
        rw [hdd] at h
        exact h
      have hBD : IsB (data12 xs) := conts_isB12 _ fun z hz => HBy.out z (List.mem_of_mem_drop hz)
      have kr := rreadS_own _ (data12 xs) wr hO.has hBD (by omega)
      have HRd : Hid (whole10 goodS10 noS10 (snap10 9 (data12 xs, false)) = readS12 (data12 xs)) := rfl
      rw [HRd.out] at kr
      have hgd := @readS_good (data12 xs)
      generalize readS12 (data12 xs) = RR at *
      obtain ⟨rs, re⟩ := RR
      dsimp only at kr hgd HJ
      have hsv := hb.size
      have HBr : Hid (Below w1.heap.size w1 wr) := hb
      clear HR HO hO hdd hdn HRd hBD hdl0 HL hb hvr
      go_wp2_with fail
      refine kr.mono ?_
      rintro _ w5 ⟨Y, rfl, hY, hLY, hb5⟩
      obtain ⟨w6, hw6, hb6, hy6, hF6⟩ := lay12 w5 Y hLY.fits
      have hst := stS_arr Y (there_box (heap_alloc_new w5 (.cells #[.int .i64 0, .int .i64 0, .slice none 0 0, .slice none 0 0, .slice none 0 0] 27)) 0 5 (Nat.le_refl _))
      rw [hw6] at hst
      have hbr6 : Below wr.heap.size wr w6 := hb5.trans (hb6.mono hb5.size)
      have HB6 : Hid (Below w1.heap.size w1 w6) := HBr.out.trans (hbr6.mono hsv)
      have HL6 : Hid (LiesS w6 wr.heap.size Y) := hLY.below hb6
      have HY : Hid (Y.s = rs) := hY
      by_cases hre : re = 0
      · have hg := hgd hre
        have hld := ldS_box _ _ _ _ _ hy6 rfl
        have hd6 : Y.d.length ≤ 1048576 := by
          rw [show Y.d = rs.d from congrArg Snap10.d hY]
          exact (good_few hg).2.2
        have kw := rwhole12_any Y w6 hF6 hd6
        have hgY : goodS10 Y.s = true := by rw [hY]; exact hg
        rw [whole_chs12 hgY] at kw
        have HwB : Hid (IsB (whole12 Y.s)) := by
          rw [Hid, ← whole_chs12 hgY]
          intro z hz
          obtain ⟨c, hc, hz⟩ := List.mem_flatten.1 hz
          exact chs_isB12' hF6.b c hc z hz
        have HJ2 : Hid (join12 xs = if whole12 Y.s = xs then (Y.s, 0) else (noS10, 8)) := by
          rw [Hid, HJ.out, hY]
          by_cases hw : whole12 rs = xs
          · rw [if_pos ⟨hre, hw⟩, if_pos hw]
          · rw [if_neg (fun h => hw h.2), if_neg hw]
        have HX6 : Hid (SnapAt w6 w5.heap.size Y) := hy6
        generalize hWh : whole12 Y.s = wh at *
        subst hre
        have KW : Hid (∀ V, Below w6.heap.size w6 V → Calls Tryz.prog 57 #[.agg Y.arr] V (Outs V wh)) := fun V h => by
          have k := rwhole12_any Y V (hF6.below h) hd6
          rwa [whole_chs12 hgY, hWh] at k
        have KV : Hid (∀ V v, Has V v wh → (convert 25 9 v).run Tryz.prog V = .ok (.string (strOfNums wh)) V) := fun V v h => h.conv (P := Tryz.prog) 25 5 9 Tryz.underlying25 Tryz.underlying5 Tryz.underlying9
        have hq := strOf_inj12 HwB.out HBy.out
        have KY : Hid (∀ A, Below w6.heap.size w6 A → ((ldS (.pointer (some ⟨w5.heap.size, 0, none⟩))).run Tryz.prog A = .ok (.agg Y.arr) A ∧ (convert 25 9 (.slice s0.p s0.n s0.c)).run Tryz.prog A = .ok (.string (strOfNums xs)) A ∧ Below w6.heap.size w6 A)) := fun A h => ⟨ldS_box A _ _ _ _ (box_below HX6.out h) rfl, (HV1.out.below (HB6.out.trans (h.mono HB6.out.size)) (Nat.le_refl _)).conv (P := Tryz.prog) 25 5 9 Tryz.underlying25 Tryz.underlying5 Tryz.underlying9, h⟩
        clear HJ hg hgY hgd hd6 hY hLY hb5 hb6 hF6 hbr6 hy6 kr hWh kw
        generalize strOfNums wh = str1 at *
        generalize strOfNums xs = str2 at *
        have KX : Hid (∀ A B, ((ldS (.pointer (some ⟨w5.heap.size, 0, none⟩))).run Tryz.prog A = .ok (.agg Y.arr) A ∧ (convert 25 9 (.slice s0.p s0.n s0.c)).run Tryz.prog A = .ok (.string str2) A ∧ Below w6.heap.size w6 A) → Below A.heap.size A B → ((ldS (.pointer (some ⟨w5.heap.size, 0, none⟩))).run Tryz.prog B = .ok (.agg Y.arr) B ∧ (convert 25 9 (.slice s0.p s0.n s0.c)).run Tryz.prog B = .ok (.string str2) B ∧ Below w6.heap.size w6 B)) := fun A B h hb => KY.out B (h.2.2.trans (hb.mono h.2.2.size))
        have KB : Hid (∀ A, ((ldS (.pointer (some ⟨w5.heap.size, 0, none⟩))).run Tryz.prog A = .ok (.agg Y.arr) A ∧ (convert 25 9 (.slice s0.p s0.n s0.c)).run Tryz.prog A = .ok (.string str2) A ∧ Below w6.heap.size w6 A) → Below w6.heap.size w6 A) := fun A h => h.2.2
        have sb0 := KY.out w6.drew (on_drew12 (Below.refl _ _))
        go_upto_region 13 with fail
        refine wp_region_held_drew (S := fun w' => (ldS (.pointer (some ⟨w5.heap.size, 0, none⟩))).run Tryz.prog w' = .ok (.agg Y.arr) w' ∧ (convert 25 9 (.slice s0.p s0.n s0.c)).run Tryz.prog w' = .ok (.string str2) w' ∧ Below w6.heap.size w6 w') (by kernel_rfl) sb0 (fun hS => ?_)
        refine take_yes12 0 (some 42) (.int .i64 0) rfl rfl (by kernel_rfl) (by kernel_rfl) (by kernel_rfl) (fun _ _ _ h => h) (by rfl) (by intro W hW; go_simp) hS ?_
        simp only [Act.put, List.setIfInBounds_toArray, List.set_cons_zero, List.set_cons_succ]
        refine take_yes12 1 (some 43) (.bool false) rfl rfl (by kernel_rfl) (by kernel_rfl) (by kernel_rfl) (fun _ _ _ h => h) (by rfl) (by intro W hW; go_simp) hS ?_
        simp only [Act.put, List.setIfInBounds_toArray, List.set_cons_zero, List.set_cons_succ]
        refine take_yes12 2 (some 44) (.bool false) rfl rfl (by kernel_rfl) (by kernel_rfl) (by kernel_rfl) (fun _ _ _ h => h) (by rfl) (by intro W hW; go_simp) hS ?_
        simp only [Act.put, List.setIfInBounds_toArray, List.set_cons_zero, List.set_cons_succ]
        refine take_yes12 3 (some 45) (.agg Y.arr) rfl rfl (by kernel_rfl) (by kernel_rfl) (by kernel_rfl) (fun _ _ _ h => h) (by rfl) (by intro W hW; obtain ⟨q1, -, -⟩ := hW; exact ldS_take12 q1) hS ?_
        simp only [Act.put, List.setIfInBounds_toArray, List.set_cons_zero, List.set_cons_succ]
        refine take_yes12 6 (some 48) (.slice s0.p s0.n s0.c) rfl rfl (by kernel_rfl) (by kernel_rfl) (by kernel_rfl) (fun _ _ _ h => h) (by rfl) (by intro W hW; go_simp) hS ?_
        simp only [Act.put, List.setIfInBounds_toArray, List.set_cons_zero, List.set_cons_succ]
        refine take_yes12 7 (some 49) (.string str2) rfl rfl (by kernel_rfl) (by kernel_rfl) (by kernel_rfl) (fun _ _ _ h => h) (by rfl) (by intro W hW; have q2 := hW.2.1; go_simp) hS ?_
        simp only [Act.put, List.setIfInBounds_toArray, List.set_cons_zero, List.set_cons_succ]
        refine wpAnyH_ready (rs := [4]) (by kernel_rfl) (by simp) ?_
        refine AllReadyH.cons rfl (fun K hK => ?_) AllReadyH.nil
        go_simp
        refine Calls.mono (KW.out _ (KB.out _ hS)) ?_
        rintro _ w7 ⟨v7, rfl, hv7, hb7⟩
        have cv7 := KV.out _ _ hv7
        go_simp
        refine hK.out _ _ (KX.out _ _ hS hb7) (fun hS5 => ?_)
        clear hK K
        try simp only [Act.put, List.setIfInBounds_toArray, List.set_cons_zero, List.set_cons_succ]
        refine wpAnyH_ready (rs := [5]) (by kernel_rfl) (by simp) ?_
        refine AllReadyH.cons rfl (fun K hK => ?_) AllReadyH.nil
        go_simp
        refine hK.out _ _ hS5 (fun hS6 => ?_)
        clear hK K
        try simp only [Act.put, List.setIfInBounds_toArray, List.set_cons_zero, List.set_cons_succ]
        have hs7 := KB.out _ hS5
        have HB7 : Hid (Below w1.heap.size w1 w7) := HB6.out.trans (hs7.mono HB6.out.size)
        have hy7 : SnapAt w7 w5.heap.size Y := box_below HX6.out hs7
        have hL7 := HL6.out.below hs7
        have hld7 := ldS_box w7 _ _ _ _ hy7 rfl
        have HL7 : Hid _ := hL7
        have r7 := box_below HR1.out HB7.out
        have HR7 : Hid _ := r7
        have lx7 := box_lt hy7
        have lr7 := box_lt r7
        clear hld hv7 hb7 HX6 hL7 HB6 HL6 hst hs7 KW KV KY KX KB cv7
        by_cases hw : wh = xs
        · rw [decide_eq_true hw] at hq
          rw [if_pos hw] at HJ2
          have hqe : str1.toList = str2.toList := beq_iff_eq.1 hq
          have hst7 := stS_arr Y (there_box r7 0 5 (Nat.le_refl _))
          have R8 : Hid ((w7.setCells s 0 Y.arr.toList).heap[s]? = some (.cells Y.arr 27 (0, 0))) := setS_box Y r7 rfl
          have HE : Hid (JoE w xs (.returned (.tuple #[.agg Y.arr, .int .i64 0])) (w7.setCells s 0 Y.arr.toList)) := by
            refine ⟨Y, by rw [HJ2.out], by rw [HJ2.out], (HL7.out.kept (setCells_grown s Y.arr.toList 0 w7) (by omega)).mono (by rw [HS.out]; omega), ?_⟩
            rw [HS.out]
            exact setCells_below (Nat.le_refl _) _ _ (HB1.out.trans (HB7.out.mono (by omega)))
          clear hq hw r7 hy7
          refine take_yes12 8 (some 50) (.bool false) rfl rfl (by kernel_rfl) (by kernel_rfl) (by kernel_rfl) (fun _ _ _ h => h) (by rfl) (by intro W hW; go_simp) hS6 ?_
          simp only [Act.put, List.setIfInBounds_toArray, List.set_cons_zero, List.set_cons_succ]
          refine take_yes12 9 (some 51) (.bool false) rfl rfl (by kernel_rfl) (by kernel_rfl) (by kernel_rfl) (fun _ _ _ h => h) (by rfl) (by intro W hW; go_simp) hS6 ?_
          simp only [Act.put, List.setIfInBounds_toArray, List.set_cons_zero, List.set_cons_succ]
          refine wpAnyH_done (by kernel_rfl) ?_ _
          go_wp2
          refine bodyPost_ret (ret_cell9 rfl _ _ s _ _ _ _ rfl R8.out Tryz.underlying27 rfl (by kernel_rfl)) rfl ?_
          exact HE.out
        · rw [decide_eq_false hw] at hq
          rw [if_neg hw] at HJ2
          have hqe : ¬ str1.toList = str2.toList := fun e => by rw [beq_iff_eq.2 e] at hq; cases hq
          obtain ⟨hst7, hlt7, hbx7, hE⟩ := HNE.out HJ2.out w7 HB7.out
          have HE : Hid _ := hE
          have HBx : Hid _ := hbx7
          clear hq hw r7 hy7 hE hbx7 hld7
          refine take_yes12 8 (some 50) (.bool true) rfl rfl (by kernel_rfl) (by kernel_rfl) (by kernel_rfl) (fun _ _ _ h => h) (by rfl) (by intro W hW; go_simp) hS6 ?_
          simp only [Act.put, List.setIfInBounds_toArray, List.set_cons_zero, List.set_cons_succ]
          refine take_yes12 9 (some 51) (.bool true) rfl rfl (by kernel_rfl) (by kernel_rfl) (by kernel_rfl) (fun _ _ _ h => h) (by rfl) (by intro W hW; go_simp) hS6 ?_
          simp only [Act.put, List.setIfInBounds_toArray, List.set_cons_zero, List.set_cons_succ]
          refine wpAnyH_done (by kernel_rfl) ?_ _
          go_wp2
          refine bodyPost_ret (ret_cell9 rfl _ _ s _ _ _ _ rfl HBx.out Tryz.underlying27 rfl (by kernel_rfl)) rfl ?_
          exact HE.out
      · have hre' : (re != 0) = true := by simpa using hre
        have HJ2 : Hid (join12 xs = (noS10, 8)) := by rw [Hid, HJ.out, if_neg (fun h => hre h.1)]
        obtain ⟨hst7, hlt7, hbx7, hE⟩ := HNE.out HJ2.out w6.drew (on_drew12 HB6.out)
        have HE : Hid _ := hE
        have HBx : Hid _ := hbx7
        clear HJ hgd hY hLY hb5 hb6 hF6 hbr6 hy6 kr hE hbx7
        go_upto_region 13 with fail
        refine wp_region_held_drew (S := fun w' => w' = w6.drew) (by kernel_rfl) rfl (fun hS => ?_)
        refine take_yes12 0 (some 42) (.int .i64 re) rfl rfl (by kernel_rfl) (by kernel_rfl) (by kernel_rfl) (fun _ _ _ h => h) (by rfl) (by intro W hW; go_simp; try simp [hre']) hS ?_
        simp only [Act.put, List.setIfInBounds_toArray, List.set_cons_zero, List.set_cons_succ]
        refine take_yes12 1 (some 43) (.bool true) rfl rfl (by kernel_rfl) (by kernel_rfl) (by kernel_rfl) (fun _ _ _ h => h) (by rfl) (by intro W hW; go_simp; try simp [hre']) hS ?_
        simp only [Act.put, List.setIfInBounds_toArray, List.set_cons_zero, List.set_cons_succ]
        refine take_yes12 2 (some 44) (.bool true) rfl rfl (by kernel_rfl) (by kernel_rfl) (by kernel_rfl) (fun _ _ _ h => h) (by rfl) (by intro W hW; go_simp; try simp [hre']) hS ?_
        simp only [Act.put, List.setIfInBounds_toArray, List.set_cons_zero, List.set_cons_succ]
        refine take_no12 3 (some 45) rfl rfl (by kernel_rfl) (by kernel_rfl) (by kernel_rfl) (fun _ _ _ h => h) (by rfl) hS ?_
        simp only [Act.put, List.setIfInBounds_toArray, List.set_cons_zero, List.set_cons_succ]
        refine take_no12 4 (some 46) rfl rfl (by kernel_rfl) (by kernel_rfl) (by kernel_rfl) (fun _ _ _ h => h) (by rfl) hS ?_
        simp only [Act.put, List.setIfInBounds_toArray, List.set_cons_zero, List.set_cons_succ]
        refine take_no12 5 (some 47) rfl rfl (by kernel_rfl) (by kernel_rfl) (by kernel_rfl) (fun _ _ _ h => h) (by rfl) hS ?_
        simp only [Act.put, List.setIfInBounds_toArray, List.set_cons_zero, List.set_cons_succ]
        refine take_no12 6 (some 48) rfl rfl (by kernel_rfl) (by kernel_rfl) (by kernel_rfl) (fun _ _ _ h => h) (by rfl) hS ?_
        simp only [Act.put, List.setIfInBounds_toArray, List.set_cons_zero, List.set_cons_succ]
        refine take_no12 7 (some 49) rfl rfl (by kernel_rfl) (by kernel_rfl) (by kernel_rfl) (fun _ _ _ h => h) (by rfl) hS ?_
        simp only [Act.put, List.setIfInBounds_toArray, List.set_cons_zero, List.set_cons_succ]
        refine take_no12 8 (some 50) rfl rfl (by kernel_rfl) (by kernel_rfl) (by kernel_rfl) (fun _ _ _ h => h) (by rfl) hS ?_
        simp only [Act.put, List.setIfInBounds_toArray, List.set_cons_zero, List.set_cons_succ]
        refine take_yes12 9 (some 51) (.bool true) rfl rfl (by kernel_rfl) (by kernel_rfl) (by kernel_rfl) (fun _ _ _ h => h) (by rfl) (by intro W hW; go_simp; try simp [hre']) hS ?_
        simp only [Act.put, List.setIfInBounds_toArray, List.set_cons_zero, List.set_cons_succ]
        refine wpAnyH_done (by kernel_rfl) ?_ _
        go_wp2
        refine bodyPost_ret (ret_cell9 rfl _ _ s _ _ _ _ rfl HBx.out Tryz.underlying27 rfl (by kernel_rfl)) rfl ?_
        exact HE.out
end Go.Proofs.YthlelcmifolnfaaGreatDoor

namespace Go.Proofs.YthlelcmifolnfaaGreatDoor
open Go.RowKit Go.Shelf Go.Maps
attribute [local go_sem ↓] ldS_exec stS_exec ldS_execI stS_execI ldS_run ldS_box oc_int oc_bool oc_string oc_slice oc_pointer
structure Bn12 (W V : World) (a : SnapV) (sb : Sl10) (zs : List Int) (N : Int) (S : ByteArray) : Prop where
  ba : SnapAt V W.heap.size a
  bn : V.heap[W.heap.size + 1]? = some (.cells #[.int .i64 N, .string S] 29 (0, 0))
  bel : Below W.heap.size W V
  fa : FitsS V a
  hb : Has V (.slice sb.p sb.n sb.c) zs
  gl : Gl11 V
theorem Bn12.below {W V V' : World} {a : SnapV} {sb : Sl10} {zs : List Int} {N : Int} {S : ByteArray} (h : Bn12 W V a sb zs N S) (hb : Below V.heap.size V V') : Bn12 W V' a sb zs N S :=
  ⟨box_below h.ba hb, box_below h.bn hb, h.bel.trans (hb.mono h.bel.size), h.fa.below hb, h.hb.below hb (Nat.le_refl _), h.gl.below hb (Nat.le_refl _)⟩
theorem chs_isB12 {a : SnapV} {W : World} (h : FitsS W a) : ∀ c ∈ chs12 a.s, IsB c := by
  intro c hc
  unfold chs12 at hc
  by_cases hg : goodS10 a.s = true
  · rw [if_pos hg] at hc
    exact fun z hz => by have := chunks_isB12 (s := a.s) h.b c hc z hz; omega
  · rw [if_neg hg] at hc
    cases hc

set_option maxRecDepth 100000 in
set_option maxHeartbeats 1000000 in
theorem snapChunks_of (a : SnapV) (sb : Sl10) (zs : List Int) (N : Int) (S : ByteArray) (W : World) (ha : FitsS W a) (hz : Has W (.slice sb.p sb.n sb.c) zs) (hB : IsB zs) (hN : inI N) (hS : S.size ≤ 140737488355328) (hsl : sb.n ≤ 140737488355328) (gl : Gl11 W) : Calls Tryz.prog 3 #[.agg a.arr, .slice sb.p sb.n sb.c, .agg #[.int .i64 N, .string S]] W (TrE W) := by
  have hb1 : Below W.heap.size W (W.alloc (.cells a.arr 27)) := (Below.refl _ _).alloc (Nat.le_refl _) _
  have hz1 : (W.alloc (.cells a.arr 27)).heap.size = W.heap.size + 1 := by simp
  have hb2 : Below (W.alloc (.cells a.arr 27)).heap.size (W.alloc (.cells a.arr 27)) ((W.alloc (.cells a.arr 27)).alloc (.cells #[.int .i64 N, .string S] 29)) := (Below.refl _ _).alloc (Nat.le_refl _) _
  have hb12 := hb1.trans (hb2.mono hb1.size)
  have hbn := heap_alloc_new (W.alloc (.cells a.arr 27)) (.cells #[.int .i64 N, .string S] 29)
  rw [hz1] at hbn
  have x1 : Bn12 W ((W.alloc (.cells a.arr 27)).alloc (.cells #[.int .i64 N, .string S] 29)) a sb zs N S := ⟨box_below (heap_alloc_new W _) hb2, hbn, hb12, ha.below hb12, hz.below hb12 (Nat.le_refl _), gl.below hb12 (Nat.le_refl _)⟩
  have HL : Hid (∀ V, Below W.heap.size W V → Calls Tryz.prog 6 #[] V fun e w' => e = .returned (.bool true) ∧ Below V.heap.size V w') := livesS_all gl
  have HX1 : Hid _ := x1
  have HBy : Hid (IsB zs) := hB
  have HCh : Hid (∀ c ∈ chs12 a.s, IsB c) := chs_isB12 ha
  have hzn : zs.length = sb.n := hz.len.1
  have HZn : Hid (zs.length = sb.n) := hzn
  have HNi : Hid (inI N) := hN
  have hla := ldS_box _ _ _ _ _ x1.ba rfl
  have kg := greatS_any a _ x1.fa
  clear gl ha x1 hb1 hz1 hb2 hb12 hbn hzn hz hB hN
  go_enter Tryz.func3, Tryz.ntmps3
  go_wp2_with fail
  generalize (W.alloc (.cells a.arr 27)).alloc (.cells #[.int .i64 N, .string S] 29) = w1 at *
  refine kg.mono ?_
  rintro _ w2 ⟨ra, rfl, hra, hb2⟩
  have x2 := HX1.out.below hb2
  have HX2 : Hid _ := x2
  have k9 := HL.out w2 x2.bel
  have n1 : w2.cell? ⟨W.heap.size + 1, 1, none⟩ = some (.string S) := box_cell x2.bn 1
  have ln := box_lt x2.bn
  clear kg hla HX1 hb2 x2
  cases ra with
  | true =>
    go_wp2_with fail
    refine k9.mono ?_
    rintro _ w3 ⟨rfl, hb3⟩
    go_wp2
    go_ret
    exact ⟨rfl, (HX2.out.below hb3).bel⟩
  | false =>
    by_cases h1 : 20000 < sb.n
    · have h1' : (20000 : Int) < (sb.n : Int) := by omega
      go_wp2_with fail
      refine k9.mono ?_
      rintro _ w3 ⟨rfl, hb3⟩
      go_wp2
      go_ret
      exact ⟨rfl, (HX2.out.below hb3).bel⟩
    have h1' : ¬ (20000 : Int) < (sb.n : Int) := by omega
    by_cases h2 : 5000 < S.size
    · have h2' : (5000 : Int) < (S.size : Int) := by omega
      go_wp2_with fail
      refine k9.mono ?_
      rintro _ w3 ⟨rfl, hb3⟩
      go_wp2
      go_ret
      exact ⟨rfl, (HX2.out.below hb3).bel⟩
    have h2' : ¬ (5000 : Int) < (S.size : Int) := by omega
    have hd : a.d.length ≤ 20000 := hra rfl
    clear k9 hra
    have hd10 : a.d.length ≤ 1048576 := by omega
    have K1 : Hid (∀ V, Below w2.heap.size w2 V → Calls Tryz.prog 7 #[.agg a.arr] V (ChE a V)) := fun V h => chunksP_any a V (HX2.out.below h).gl.tab (HX2.out.below h).fa
    have K2 : Hid (∀ V, Below w2.heap.size w2 V → Calls Tryz.prog 8 #[.agg a.arr] V (ChE a V)) := fun V h => rchunksP_any a V (HX2.out.below h).fa hd10
    have KY : Hid (∀ A, Below w2.heap.size w2 A → ((ldS (.pointer (some ⟨W.heap.size, 0, none⟩))).run Tryz.prog A = .ok (.agg a.arr) A ∧ Below w2.heap.size w2 A)) := fun A h => ⟨ldS_box A _ _ _ _ (HX2.out.below h).ba rfl, h⟩
    have KX : Hid (∀ A B, ((ldS (.pointer (some ⟨W.heap.size, 0, none⟩))).run Tryz.prog A = .ok (.agg a.arr) A ∧ Below w2.heap.size w2 A) → Below A.heap.size A B → ((ldS (.pointer (some ⟨W.heap.size, 0, none⟩))).run Tryz.prog B = .ok (.agg a.arr) B ∧ Below w2.heap.size w2 B)) := fun A B h hb => KY.out B (h.2.trans (hb.mono h.2.size))
    have KB : Hid (∀ A, ((ldS (.pointer (some ⟨W.heap.size, 0, none⟩))).run Tryz.prog A = .ok (.agg a.arr) A ∧ Below w2.heap.size w2 A) → Below w2.heap.size w2 A) := fun A h => h.2
    have s0 := KY.out w2.drew (on_drew12 (Below.refl _ _))
    go_upto_region 3 with fail
    go_region_held3 (fun w' => (ldS (.pointer (some ⟨W.heap.size, 0, none⟩))).run Tryz.prog w' = .ok (.agg a.arr) w' ∧ Below w2.heap.size w2 w')
      (first | (with_reducible exact s0) | (with_reducible assumption) | (with_reducible exact KX.out _ _ (by assumption) hb3) | (with_reducible exact KX.out _ _ (by assumption) hb4))
      (first
        | (go_at_call 7; (with_reducible refine Calls.mono (K1.out _ (KB.out _ (by assumption))) ?_); (rintro _ w3 ⟨l, ys, rfl, hys, hr3, hb3⟩))
        | (go_at_call 8; (with_reducible refine Calls.mono (K2.out _ (KB.out _ (by assumption))) ?_); (rintro _ w4 ⟨m, zz, rfl, hzz, hr4, hb4⟩)))
    have HB4 : Hid (Below w2.heap.size w2 w4) := KB.out _ (by assumption)
    have HR1 : Hid (RowC w4 w2.drew.heap.size l ys) := hr3.below hb4
    have HR2 : Hid (RowC w4 w3.heap.size m zz) := hr4
    have hln : l.n = ys.length := hr3.num
    have hmn : m.n = zz.length := hr4.num
    have hyz : ys.length = zz.length := by
      have h1 := congrArg List.length hys
      have h2 := congrArg List.length hzz
      rw [List.length_map] at h1 h2
      omega
    have hyl : ys.length ≤ 1000000 := by
      have h1 := congrArg List.length hys
      rw [List.length_map] at h1
      have := (@chs_len12 a.s).2
      omega
    have HYs : Hid (ys.map Prod.snd = chs12 a.s) := hys
    have HZs : Hid (zz.map Prod.snd = chs12 a.s) := hzz
    have hX4 : Bn12 W w4 a sb zs N S := HX2.out.below HB4.out
    have HX4 : Hid _ := hX4
    have HYL : Hid (ys.length = zz.length) := hyz
    obtain ⟨nn, hnn⟩ : ∃ nn : Nat, nn = zz.length := ⟨_, rfl⟩
    rw [← hnn] at hmn hyz
    rw [hyz] at hln hyl
    have HNN : Hid (nn = zz.length) := hnn
    clear hr3 hr4 hb3 hb4 hys hzz KB KX KY K1 K2 s0 hnn hyz hX4
    generalize hlp : l.p = lp at *
    generalize hmp : m.p = mp at *
    have HLP : Hid (l.p = lp) := hlp
    have HMP : Hid (m.p = mp) := hmp
    clear hlp hmp
    rw [hln, hmn]
    go_wp2
    go_loopw [43] (fun s43 wr => ∃ j : Nat, s43 = .int .i64 (j : Nat) ∧ j ≤ nn ∧ Below w4.heap.size w4 wr) (fun s43 _ => nn - (intOf s43).toNat)
    case atStart => exact ⟨0, rfl, Nat.zero_le _, Below.refl _ _⟩
    case round =>
      obtain ⟨j, rfl, hj, hbr⟩ := hrel
      have HBr : Hid (Below w4.heap.size w4 wr) := hbr
      by_cases hjn : j < nn
      · obtain ⟨g1, hp1, hn1, hc1, hg1, ⟨yl, yb⟩, hyj, hcell1, hym⟩ := (HR1.out.below hbr).at (j := j) (by rw [HYL.out, ← HNN.out]; exact hjn)
        obtain ⟨g2, hp2, hn2, hc2, hg2, ⟨zl, zb⟩, hzj, hcell2, hzm⟩ := (HR2.out.below hbr).at (j := j) (by rw [← HNN.out]; exact hjn)
        have e1 : (chs12 a.s)[j]? = some yb := by rw [← HYs.out, List.getElem?_map, hyj]; rfl
        have e2 : (chs12 a.s)[j]? = some zb := by rw [← HZs.out, List.getElem?_map, hzj]; rfl
        obtain rfl : yb = zb := Option.some.inj (e1.symm.trans e2)
        have hi8 : isB8 yb := isB_eq12 (HCh.out yb (List.mem_of_getElem? e1))
        have KS : Hid (∀ V, Below wr.heap.size wr V → Calls Tryz.prog 9 #[.slice yl.p yl.n yl.c, .slice zl.p zl.n zl.c] V fun e w' => e = .returned (.bool true) ∧ w' = V) := fun V h => by
          have k := same8 _ _ yb yb V (((HR1.out.below hbr).below h).has _ hym) (((HR2.out.below hbr).below h).has _ hzm) hi8 hi8
          rwa [beq_self_eq_true] at k
        rw [HLP.out] at hp1
        rw [HMP.out] at hp2
        subst hp1 hp2
        rw [hln] at hc1
        rw [hmn] at hc2
        dsimp only at hcell1 hcell2
        have s1 : wr.drew.cell? ⟨g1, j, none⟩ = some (.slice yl.p yl.n yl.c) ∧ wr.drew.cell? ⟨g2, j, none⟩ = some (.slice zl.p zl.n zl.c) ∧ Below wr.heap.size wr wr.drew := ⟨hcell1, hcell2, on_drew12 (Below.refl _ _)⟩
        have KSB : Hid (∀ A, (A.cell? ⟨g1, j, none⟩ = some (.slice yl.p yl.n yl.c) ∧ A.cell? ⟨g2, j, none⟩ = some (.slice zl.p zl.n zl.c) ∧ Below wr.heap.size wr A) → Below wr.heap.size wr A) := fun _ h => h.2.2
        clear hym hzm hyj hzj e1 e2 hi8 hcell1 hcell2 hn1 hn2 hbr
        go_upto_region 9 with fail
        go_region_held3 (fun w' => w'.cell? ⟨g1, j, none⟩ = some (.slice yl.p yl.n yl.c) ∧ w'.cell? ⟨g2, j, none⟩ = some (.slice zl.p zl.n zl.c) ∧ Below wr.heap.size wr w')
          (first | (with_reducible exact s1) | (with_reducible assumption))
          (first
            | (go_at_call 9; (with_reducible refine Calls.mono (KS.out _ (KSB.out _ (by assumption))) ?_); (rintro _ _ ⟨rfl, rfl⟩)))
        go_wp2
        go_roundw
        case rel => exact ⟨j + 1, by go_num, by omega, on_drew12 HBr.out⟩
        case measure => simp only [intOf]; omega
      · obtain rfl : j = nn := by omega
        have HB5 : Hid (Below w2.heap.size w2 wr) := HB4.out.trans (hbr.mono HB4.out.size)
        have x5 := HX2.out.below HB5.out
        have HX5 : Hid (Bn12 W wr a sb zs N S) := x5
        have hzl : zs.length ≤ 20000 := by have := HZn.out; omega
        have k1 := joinS_any sb zs wr x5.gl.tab x5.hb HBy.out (by omega)
        have KJ : Hid (∀ V, Has V (.slice sb.p sb.n sb.c) zs → Calls Tryz.prog 11 #[.slice sb.p sb.n sb.c] V fun e w' => ∃ Y : SnapV, e = .returned (.tuple #[.agg Y.arr, .int .i64 (join12 zs).2]) ∧ Y.s = (join12 zs).1 ∧ LiesS w' V.heap.size Y ∧ Below V.heap.size V w') := fun V h => rjoin12_any sb zs V h HBy.out (by omega)
        generalize join12 zs = JJ at *
        obtain ⟨js, je⟩ := JJ
        dsimp only at k1 KJ
        clear hbr HBr HB4 HB5 HR1 HR2 HX4 HYs HZs HYL HNN HLP HMP x5 HCh
        go_wp2_with fail
        refine k1.mono ?_
        rintro _ w5 ⟨Y, rfl, hY, hOY, hb5⟩
        obtain ⟨w6, hw6, hb6, hy6, hF6⟩ := lay12 w5 Y hOY.fits
        have hst6 := stS_arr Y (there_box (heap_alloc_new w5 (.cells #[.int .i64 0, .int .i64 0, .slice none 0 0, .slice none 0 0, .slice none 0 0] 27)) 0 5 (Nat.le_refl _))
        rw [hw6] at hst6
        have x6 := HX5.out.below (hb5.trans (hb6.mono hb5.size))
        have HX6 : Hid (Bn12 W w6 a sb zs N S) := x6
        have HP6 : Hid (SnapAt w6 w5.heap.size Y) := hy6
        have HF6 : Hid (FitsS w6 Y) := hF6
        have HY : Hid (Y.s = js) := hY
        have k2 := KJ.out w6 x6.hb
        clear k1 KJ hY hOY hb5 hb6 hy6 hF6 HX5 x6
        go_wp2_with fail
        refine k2.mono ?_
        rintro _ w7 ⟨Y2, rfl, hY2, hLY, hb7⟩
        obtain ⟨w8, hw8, hb8, hy8, hF8⟩ := lay12 w7 Y2 hLY.fits
        have hst8 := stS_arr Y2 (there_box (heap_alloc_new w7 (.cells #[.int .i64 0, .int .i64 0, .slice none 0 0, .slice none 0 0, .slice none 0 0] 27)) 0 5 (Nat.le_refl _))
        rw [hw8] at hst8
        have hb68 := hb7.trans (hb8.mono hb7.size)
        have x8 := HX6.out.below hb68
        have HX8 : Hid (Bn12 W w8 a sb zs N S) := x8
        have HP8 : Hid (SnapAt w8 w5.heap.size Y) := box_below HP6.out hb68
        have HQ8 : Hid (SnapAt w8 w7.heap.size Y2) := hy8
        have HF8 : Hid (FitsS w8 Y) := HF6.out.below hb68
        have HG8 : Hid (FitsS w8 Y2) := hF8
        have HY2 : Hid (Y2.s = js) := hY2
        have k3 := indexS_any S hS w8 x8.gl
        have KN : Hid (∀ V, Calls Tryz.prog 13 #[.string S] V fun e w' => e = .returned (.tuple #[.int .i64 (num12 S).1, .bool (num12 S).2]) ∧ Below V.heap.size V w') := fun V => rindex12_any S (by unfold maxLen; omega) V
        generalize num12 S = NN at *
        obtain ⟨ni, nb⟩ := NN
        dsimp only at k3 KN
        have m8 : w8.cell? ⟨W.heap.size + 1, 1, none⟩ = some (.string S) := box_cell x8.bn 1
        have l8 := box_lt x8.bn
        clear k2 hY2 hLY hb7 hb8 hy8 hF8 hb68 HX6 HP6 HF6 x8
        go_wp2_with fail
        refine k3.mono ?_
        rintro _ w9 ⟨rfl, hb9⟩
        have k4 := KN.out w9
        have x9 := HX8.out.below hb9
        have m9 : w9.cell? ⟨W.heap.size + 1, 1, none⟩ = some (.string S) := box_cell x9.bn 1
        have l9 := box_lt x9.bn
        have HB9 : Hid (Below w8.heap.size w8 w9) := hb9
        clear k3 KN m8 l8 hb9 x9
        go_wp2_with fail
        refine k4.mono ?_
        rintro _ w10 ⟨rfl, hb10⟩
        have hb810 := HB9.out.trans (hb10.mono HB9.out.size)
        have HX10 : Hid (Bn12 W w10 a sb zs N S) := HX8.out.below hb810
        have HP10 : Hid (SnapAt w10 w5.heap.size Y) := box_below HP8.out hb810
        have HQ10 : Hid (SnapAt w10 w7.heap.size Y2) := box_below HQ8.out hb810
        have K5 : Hid (∀ V, Below w10.heap.size w10 V → Calls Tryz.prog 14 #[.agg Y.arr, .agg Y2.arr] V fun e w' => e = .returned (.bool true) ∧ Below V.heap.size V w') := fun V h => by
          have hbV := hb810.trans (h.mono hb810.size)
          have k := rsameSnap_any Y Y2 V (HF8.out.below hbV) (HG8.out.below hbV)
          rwa [HY.out, HY2.out, (sameS10_iff js js).2 rfl] at k
        have K6 : Hid (∀ V, Below w10.heap.size w10 V → Calls Tryz.prog 15 #[.int .i64 N] V fun e w' => e = .returned (.string (nameB12 N)) ∧ Below V.heap.size V w') := fun V h => nameS_any N HNi.out V (HX10.out.below h).gl
        have K7 : Hid (∀ V, Calls Tryz.prog 16 #[.int .i64 N] V fun e w' => e = .returned (.string (nameB12 N)) ∧ Below V.heap.size V w') := fun V => rname12_any N V
        have K8 : Hid (∀ V, Below w10.heap.size w10 V → Calls Tryz.prog 6 #[] V fun e w' => e = .returned (.bool true) ∧ Below V.heap.size V w') := fun V h => HL.out V (HX10.out.below h).bel
        have KY : Hid (∀ A, Below w10.heap.size w10 A → ((ldS (.pointer (some ⟨w5.heap.size, 0, none⟩))).run Tryz.prog A = .ok (.agg Y.arr) A ∧ (ldS (.pointer (some ⟨w7.heap.size, 0, none⟩))).run Tryz.prog A = .ok (.agg Y2.arr) A ∧ A.cell? ⟨W.heap.size + 1, 0, none⟩ = some (.int .i64 N) ∧ Below w10.heap.size w10 A)) := fun A h => ⟨ldS_box A _ _ _ _ (box_below HP10.out h) rfl, ldS_box A _ _ _ _ (box_below HQ10.out h) rfl, box_cell (HX10.out.below h).bn 0, h⟩
        have KX : Hid (∀ A B, ((ldS (.pointer (some ⟨w5.heap.size, 0, none⟩))).run Tryz.prog A = .ok (.agg Y.arr) A ∧ (ldS (.pointer (some ⟨w7.heap.size, 0, none⟩))).run Tryz.prog A = .ok (.agg Y2.arr) A ∧ A.cell? ⟨W.heap.size + 1, 0, none⟩ = some (.int .i64 N) ∧ Below w10.heap.size w10 A) → Below A.heap.size A B → ((ldS (.pointer (some ⟨w5.heap.size, 0, none⟩))).run Tryz.prog B = .ok (.agg Y.arr) B ∧ (ldS (.pointer (some ⟨w7.heap.size, 0, none⟩))).run Tryz.prog B = .ok (.agg Y2.arr) B ∧ B.cell? ⟨W.heap.size + 1, 0, none⟩ = some (.int .i64 N) ∧ Below w10.heap.size w10 B)) := fun A B h hb => KY.out B (h.2.2.2.trans (hb.mono h.2.2.2.size))
        have KB : Hid (∀ A, ((ldS (.pointer (some ⟨w5.heap.size, 0, none⟩))).run Tryz.prog A = .ok (.agg Y.arr) A ∧ (ldS (.pointer (some ⟨w7.heap.size, 0, none⟩))).run Tryz.prog A = .ok (.agg Y2.arr) A ∧ A.cell? ⟨W.heap.size + 1, 0, none⟩ = some (.int .i64 N) ∧ Below w10.heap.size w10 A) → Below w10.heap.size w10 A) := fun A h => h.2.2.2
        have KE : Hid (∀ A, Below w10.heap.size w10 A → Below W.heap.size W A) := fun A h => (HX10.out.below h).bel
        have sb0 := KY.out w10.drew (on_drew12 (Below.refl _ _))
        generalize nameB12 N = nm at *
        clear k4 m9 l9 hb10 hb810 HB9 HX8 HP8 HQ8 hst6 hst8 hw6 hw8
        go_upto_region 16 with fail
        go_region_held3 (fun w' => (ldS (.pointer (some ⟨w5.heap.size, 0, none⟩))).run Tryz.prog w' = .ok (.agg Y.arr) w' ∧ (ldS (.pointer (some ⟨w7.heap.size, 0, none⟩))).run Tryz.prog w' = .ok (.agg Y2.arr) w' ∧ w'.cell? ⟨W.heap.size + 1, 0, none⟩ = some (.int .i64 N) ∧ Below w10.heap.size w10 w')
          (first | (with_reducible exact sb0) | (with_reducible assumption) | (with_reducible exact KX.out _ _ (by assumption) (by assumption)))
          (first
            | (go_at_call 14; (with_reducible refine Calls.mono (K5.out _ (KB.out _ (by assumption))) ?_); (rintro _ g1 ⟨rfl, hc1⟩))
            | (go_at_call 15; (with_reducible refine Calls.mono (K6.out _ (KB.out _ (by assumption))) ?_); (rintro _ g2 ⟨rfl, hc2⟩))
            | (go_at_call 16; (with_reducible refine Calls.mono (K7.out _) ?_); (rintro _ g3 ⟨rfl, hc3⟩))
            | (go_at_call 6; (with_reducible refine Calls.mono (K8.out _ (KB.out _ (by assumption))) ?_); (rintro _ g4 ⟨rfl, hc4⟩); have hfin := KE.out _ (KB.out _ (KX.out _ _ (by assumption) hc4))))
        go_wp2
        go_ret
        exact ⟨rfl, hfin⟩
end Go.Proofs.YthlelcmifolnfaaGreatDoor
