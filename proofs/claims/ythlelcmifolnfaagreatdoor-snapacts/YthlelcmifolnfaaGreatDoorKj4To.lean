import Derived.Test.YthlelcmifolnfaaGreatDoorKd6
import Derived.Test.YthlelcmifolnfaaGreatDoorDs0To
import Derived.Lib.SlBytesConst
import Derived.Test.YthlelcmifolnfaaGreatDoorKc1To
import Derived.Test.YthlelcmifolnfaaGreatDoorDs4To
import Derived.Test.YthlelcmifolnfaaGreatDoorRef6To
import Derived.Test.YthlelcmifolnfaaGreatDoorLxTo
import Derived.Test.YthlelcmifolnfaaGreatDoorEq4To
import Derived.Test.YthlelcmifolnfaaGreatDoorKi4To
import Derived.Deep.RegionHeld3
import Derived.Test.YthlelcmifolnfaaGreatDoorRfSTo
import Derived.Test.YthlelcmifolnfaaGreatDoorEo1
namespace Go.Proofs.YthlelcmifolnfaaGreatDoor
open Go.RowKit Go.Shelf Go.Maps
attribute [local go_sem ↓] ldS_exec stS_exec ldS_execI stS_execI ldS_run ldS_box oc_int oc_bool oc_string oc_slice oc_pointer
def plainS (i : Int) : Snap10 := ⟨i, 1, ⟨[1], []⟩, [97, 98, 99]⟩
def plainV (i : Int) (g : Nat) : SnapV := ⟨i, 1, ⟨⟨some ⟨g, 0, none⟩, 1, 1⟩, nilS10, ⟨[1], []⟩⟩, ⟨some ⟨g + 1, 0, none⟩, 3, 3⟩, [97, 98, 99]⟩
set_option maxRecDepth 100000 in
set_option maxHeartbeats 1000000 in
theorem plain_any (i : Int) (hi : inI i) (w : World) : Calls Tryz.prog 41 #[.int .i64 i] w fun e w' => e = .returned (.agg (plainV i (w.heap.size + 1)).arr) ∧ FitsS w' (plainV i (w.heap.size + 1)) ∧ Below w.heap.size w w' := by
  generalize hs : w.heap.size = s at *
  have kc := Lib.run_convert_bytes_const (P := Tryz.prog) ((w.alloc (.cells #[.int .i64 0, .int .i64 0, .slice none 0 0, .slice none 0 0, .slice none 0 0] 27)).alloc (.cells #[.int .i64 1] 3)) 25 5 #[.int .u8 97, .int .u8 98, .int .u8 99] 3 3 Tryz.underlying25 Tryz.underlying5
  obtain ⟨w3, hw3⟩ : ∃ w3, ((w.alloc (.cells #[.int .i64 0, .int .i64 0, .slice none 0 0, .slice none 0 0, .slice none 0 0] 27)).alloc (.cells #[.int .i64 1] 3)).alloc (.cells #[.int .u8 97, .int .u8 98, .int .u8 99] 5 (3, 4)) = w3 := ⟨_, rfl⟩
  have hb3 : Below s w w3 := by rw [← hw3]; exact (((Below.refl _ w).alloc (by omega) _).alloc (by simp; omega) _).alloc (by simp; omega) _
  have hz3 : w3.heap.size = s + 3 := by rw [← hw3]; simp; omega
  have r3 : w3.heap[s]? = some (.cells zeroS 27 (0, 0)) := by
    rw [← hw3, ← hs]
    exact box_below (box_below (heap_alloc_new w _) ((Below.refl _ _).alloc (Nat.le_refl _) _)) ((Below.refl _ _).alloc (Nat.le_refl _) _)
  have i3 : w3.heap[s + 1]? = some (.cells #[.int .i64 1] 3 (0, 0)) := by
    have := heap_alloc_new (w.alloc (.cells #[.int .i64 0, .int .i64 0, .slice none 0 0, .slice none 0 0, .slice none 0 0] 27)) (.cells #[.int .i64 1] 3)
    rw [World.size_alloc, hs] at this
    rw [← hw3]
    exact box_below this ((Below.refl _ _).alloc (Nat.le_refl _) _)
  have b3 : w3.heap[s + 2]? = some (.cells #[.int .u8 97, .int .u8 98, .int .u8 99] 5 (3, 4)) := by
    have := heap_alloc_new ((w.alloc (.cells #[.int .i64 0, .int .i64 0, .slice none 0 0, .slice none 0 0, .slice none 0 0] 27)).alloc (.cells #[.int .i64 1] 3)) (.cells #[.int .u8 97, .int .u8 98, .int .u8 99] 5 (3, 4))
    rw [World.size_alloc, World.size_alloc, hs] at this
    rw [← hw3]; exact this
  rw [World.size_alloc, World.size_alloc, hs] at kc
  have kc2 : (convert 25 25 (.slice (some ⟨s + 1 + 1, 0, none⟩) 3 3)).run Tryz.prog (((w.alloc (.cells #[.int .i64 0, .int .i64 0, .slice none 0 0, .slice none 0 0, .slice none 0 0] 27)).alloc (.cells #[.int .i64 1] 3)).alloc (.cells #[.int .u8 97, .int .u8 98, .int .u8 99] 5)) = .ok (.slice (some ⟨s + 1 + 1, 0, none⟩) 3 3) w3 := by rw [← hw3]; exact kc
  clear kc hw3
  have hth := there_box r3 0 5 (Nat.le_refl _)
  have hst := stS_arr (plainV i (s + 1)) hth
  have R4 : Hid ((w3.setCells s 0 (plainV i (s + 1)).arr.toList).heap[s]? = some (.cells (plainV i (s + 1)).arr 27 (0, 0))) := setS_box _ r3 rfl
  have hgr := setCells_grown s (plainV i (s + 1)).arr.toList 0 w3
  have i4 := (hgr.block (s + 1) (by omega) (by simp)).trans i3
  have b4 := (hgr.block (s + 2) (by omega) (by simp)).trans b3
  have HB4 : Hid (Below s w (w3.setCells s 0 (plainV i (s + 1)).arr.toList)) := setCells_below (Nat.le_refl _) _ _ hb3
  have HF4 : Hid (FitsS (w3.setCells s 0 (plainV i (s + 1)).arr.toList) (plainV i (s + 1))) := by
    refine ⟨hi, (show inI 1 from ⟨by decide, by decide⟩), ⟨?_, HasI.nil _, ?_, (fun _ h => by cases h), (show 1 ≤ 17592186044416 by decide), (show 0 ≤ 17592186044416 by decide)⟩, ?_, ?_, (show 3 ≤ 140737488351232 by decide)⟩
    · refine ⟨_, _, rfl, Nat.le_refl _, (fun h => by cases h), fun _ => ⟨s + 1, 0, rfl, box_lt i4, fun j hj => ?_⟩⟩
      have hj0 : j = 0 := by have : j < 1 := hj; omega
      subst hj0
      exact box_cell i4 0
    · intro z hz
      have : z = 1 := by simpa [plainV] using hz
      subst this
      exact ⟨by decide, by decide⟩
    · refine ⟨_, _, rfl, Nat.le_refl _, (fun h => by cases h), fun _ => ⟨s + 2, 0, rfl, box_lt b4, fun j hj => ?_⟩⟩
      have hj3 : j = 0 ∨ j = 1 ∨ j = 2 := by have : j < 3 := hj; omega
      rcases hj3 with rfl | rfl | rfl
      · exact box_cell b4 0
      · exact box_cell b4 1
      · exact box_cell b4 2
    · intro z hz
      have : z = 97 ∨ z = 98 ∨ z = 99 := by simpa [plainV] using hz
      omega
  have lr := box_lt r3
  clear hb3 i3 b3 i4 b4 hgr r3
  unfold plainV SnapV.arr nilS10 at hst
  dsimp only at hst
  go_enter Tryz.func41, Tryz.ntmps41
  go_wp2
  refine bodyPost_ret (ret_one rfl _ _ s _ _ _ _ rfl R4.out Tryz.underlying27 rfl (by kernel_rfl)) rfl ⟨rfl, HF4.out, HB4.out⟩
theorem okN_save12 {M : DM} {c : Nat} (h : M.OkN c) {s : Snap10} (hB : IsB s.d) : (save12 M s).2.OkN (c + 16777700) := by
  unfold save12
  split
  · exact h.mono (by omega)
  · split
    · rename_i hg
      have hfw := good_few hg.1
      have hf : FewF s.f := ⟨by omega, by omega⟩
      have o4 := st12_ok h hB hf hfw.2.2 4 (Nat.le_refl _)
      have o4' : (sav4 M s).2.OkN (c + 400) := o4
      unfold sav5
      split
      · have hl : (files12 (sav4 M s).2.listT).reverse.length ≤ 16777216 := by
          rw [List.length_reverse]
          refine Nat.le_trans (files12_len _) ?_
          unfold DM.listT
          split
          · exact Nat.zero_le _
          · show (nms (sav4 M s).2.L).length ≤ _
            unfold nms
            rw [List.length_map]
            exact o4'.inv.count
        exact (okN_drop12 _ _ o4').mono (by omega)
      · exact o4'.mono (by omega)
    · exact h.mono (by omega)
theorem HasT8.of_row12 {w w' : World} {B : Nat} {v : Value} {xs : List ByteArray} (h : w.ownsRow B 9 1 v xs.length (textsV8 xs)) (hb : Below w.heap.size w w') : HasT8 w' v xs := by
  rcases h.2 with ⟨rfl, hn⟩ | ⟨g, cap, cur, rfl, hB, hg, hnc, _, _, _⟩
  · exact ⟨none, 0, by rw [hn], by omega, fun _ => rfl, fun h0 => by omega⟩
  · refine ⟨some ⟨g, 0, none⟩, cap, rfl, hnc, (fun h0 => by cases h0), fun _ => ⟨g, 0, rfl, Nat.lt_of_lt_of_le (box_lt hg) hb.size, fun i hi => ?_⟩⟩
    have hc := World.ownsRow.cells h (g := g) rfl i (.string (xs.getD i ByteArray.empty)) (by simp [textsV8, hi, List.getD_eq_getElem?_getD])
    rw [Addr.add_lit] at hc
    exact (hb.cell (p := ⟨g, 0 + i, none⟩) (box_lt hg)).trans hc
def lS1 : DM := (save12 (DM.empty 5000) (plainS 5)).2
def lS2 : DM := (save12 lS1 (plainS 9)).2
set_option maxRecDepth 100000 in
theorem lS_errs : (save12 (DM.empty 5000) (plainS 5)).1 = 0 ∧ (save12 lS1 (plainS 9)).1 = 0 := by decide +kernel
set_option maxRecDepth 100000 in
theorem lS_load : (lod12 lS2).1.i = 9 ∧ (lod12 lS2).2.1 = true ∧ (lod12 lS2).2.2 = 0 := by decide +kernel
set_option maxRecDepth 100000 in
theorem lS_list : lS2.listT = [⟨#[115, 110, 97, 112, 45, 57]⟩] := by decide +kernel
theorem plain_isB (i : Int) : IsB (plainS i).d := by
  intro z hz
  have : z = 97 ∨ z = 98 ∨ z = 99 := by simpa [plainS] using hz
  omega
theorem lS_ok1 : lS1.OkN 16777700 := by
  have := okN_save12 (okN_empty 5000 (by decide)) (plain_isB 5)
  rw [Nat.zero_add] at this
  exact this
theorem lS_ok2 : lS2.OkN (16777700 + 16777700) := okN_save12 lS_ok1 (plain_isB 9)
theorem plain_in (i : Int) (g : Nat) {k : Nat} (h : inSn (plainV i g) k) : g ≤ k := by
  rcases h with h | h | h
  · obtain ⟨-, a, ha, rfl⟩ := h
    have : a = ⟨g, 0, none⟩ := by simpa [plainV] using ha.symm
    rw [this]
    exact Nat.le_refl _
  · exact absurd h.1 (Nat.lt_irrefl 0)
  · obtain ⟨-, a, ha, rfl⟩ := h
    have : a = ⟨g + 1, 0, none⟩ := by simpa [plainV] using ha.symm
    rw [this]
    exact Nat.le_succ _

set_option maxRecDepth 100000 in
set_option maxHeartbeats 1000000 in
theorem livesS_any (W : World) (h0 : Gl11 W) : Calls Tryz.prog 6 #[] W fun e w' => e = .returned (.bool true) ∧ Below W.heap.size W w' := by
  have kn := Disk8.new 5000 W W (by decide) (Below.refl _ _)
  have HG : Hid (Gl11 W) := h0
  clear h0
  go_enter Tryz.func6, Tryz.ntmps6
  go_wp2_with fail
  refine kn.mono ?_
  rintro _ w1 ⟨rfl, hd1, -⟩
  generalize W.heap.size + 1 = d at *
  generalize (fun k => W.heap.size ≤ k ∧ k < w1.heap.size) = S1 at *
  have kp := plain_any 5 ⟨by decide, by decide⟩ w1
  have hz1 : ∀ k, S1 k → k < w1.heap.size := fun k hk => (hd1.own k hk).2
  clear kn
  go_wp2_with fail
  refine kp.mono ?_
  rintro _ w2 ⟨rfl, hF2, hb2⟩
  have ks := saveS_any (hd1.below hb2) HG.out (okN_empty 5000 (by decide)) (by decide) (plainV 5 (w1.heap.size + 1)) hF2 (fun k hk hs => by have := plain_in _ _ hk; have := hz1 k hs; omega) (show 3 ≤ 1048576 by decide)
  have e1 : (save12 (DM.empty 5000) (plainV 5 (w1.heap.size + 1)).s).1 = 0 := lS_errs.1
  rw [e1] at ks
  have ks2 := ks.mono (R' := fun e w' => e = .returned (.int .i64 0) ∧ Hid (∃ S, Disk8 W w' d S lS1)) fun e w' he => ⟨he.1, _, he.2.1⟩
  generalize (plainV 5 (w1.heap.size + 1)).arr = pa at *
  clear kp ks e1 hF2 hd1 hz1 hb2
  go_wp2_with fail
  refine ks2.mono ?_
  rintro _ w3 ⟨rfl, hS3⟩
  obtain ⟨S3, hd3⟩ := hS3.out
  have kp := plain_any 9 ⟨by decide, by decide⟩ w3
  have hz3 : ∀ k, S3 k → k < w3.heap.size := fun k hk => (hd3.own k hk).2
  clear ks2 hS3
  go_wp2_with fail
  refine kp.mono ?_
  rintro _ w4 ⟨rfl, hF4, hb4⟩
  have ks := saveS_any (hd3.below hb4) HG.out lS_ok1 (by decide) (plainV 9 (w3.heap.size + 1)) hF4 (fun k hk hs => by have := plain_in _ _ hk; have := hz3 k hs; omega) (show 3 ≤ 1048576 by decide)
  have e1 : (save12 lS1 (plainV 9 (w3.heap.size + 1)).s).1 = 0 := lS_errs.2
  rw [e1] at ks
  have ks2 := ks.mono (R' := fun e w' => e = .returned (.int .i64 0) ∧ Hid (∃ S, Disk8 W w' d S lS2)) fun e w' he => ⟨he.1, _, he.2.1⟩
  generalize (plainV 9 (w3.heap.size + 1)).arr = pb at *
  clear kp ks e1 hF4 hd3 hz3 hb4
  go_wp2_with fail
  refine ks2.mono ?_
  rintro _ w5 ⟨rfl, hS5⟩
  obtain ⟨S5, hd5⟩ := hS5.out
  have kl := loadS_any hd5 HG.out lS_ok2.inv
  obtain ⟨g1, g2, g3⟩ := lS_load
  have HYi : Hid ((lod12 lS2).1.i = 9) := g1
  rw [g2, g3] at kl
  clear ks2 hS5 g1 g2 g3
  go_wp2_with fail
  refine kl.mono ?_
  rintro _ w6 ⟨Y, rfl, hY, hO, hb6⟩
  have hbx := heap_alloc_new w6 (.cells #[.int .i64 0, .int .i64 0, .slice none 0 0, .slice none 0 0, .slice none 0 0] 27)
  have hth := there_box hbx 0 5 (Nat.le_refl _)
  have hst := stS_arr Y hth
  have hb7 : Below w6.heap.size w6 ((w6.alloc (.cells #[.int .i64 0, .int .i64 0, .slice none 0 0, .slice none 0 0, .slice none 0 0] 27)).setCells w6.heap.size 0 Y.arr.toList) := setCells_below (Nat.le_refl _) _ _ ((Below.refl _ _).alloc (Nat.le_refl _) _)
  have hy7 : SnapAt ((w6.alloc (.cells #[.int .i64 0, .int .i64 0, .slice none 0 0, .slice none 0 0, .slice none 0 0] 27)).setCells w6.heap.size 0 Y.arr.toList) w6.heap.size Y := setS_box Y hbx rfl
  have cy : ((w6.alloc (.cells #[.int .i64 0, .int .i64 0, .slice none 0 0, .slice none 0 0, .slice none 0 0] 27)).setCells w6.heap.size 0 Y.arr.toList).cell? ⟨w6.heap.size, 0, none⟩ = some (.int .i64 9) := by
    rw [(SnapAt.cells hy7).1, ← HYi.out, ← hY]
    rfl
  have ly := box_lt hy7
  have hd7 := (hd5.below hb6).below hb7
  have kL := list_any hd7.at8 lS_ok2.inv
  rw [lS_list] at kL
  have HB7 : Hid (Below W.heap.size W ((w6.alloc (.cells #[.int .i64 0, .int .i64 0, .slice none 0 0, .slice none 0 0, .slice none 0 0] 27)).setCells w6.heap.size 0 Y.arr.toList)) := hd7.bel
  clear kl hbx hth hb7 hy7 hd7 hd5 hb6 hO hY
  go_wp2_with fail
  refine kL.mono ?_
  rintro _ w8 ⟨⟨v8, rfl, ho8⟩, hb8⟩
  have hb9 : Below w8.heap.size w8 (w8.alloc (.cells #[.string ⟨#[115, 110, 97, 112, 45, 57]⟩] 9)) := (Below.refl _ _).alloc (Nat.le_refl _) _
  have hB9 := heap_alloc_new w8 (.cells #[.string ⟨#[115, 110, 97, 112, 45, 57]⟩] 9)
  have kt := texts8 v8 (.slice (some ⟨w8.heap.size, 0, none⟩) 1 1) [⟨#[115, 110, 97, 112, 45, 57]⟩] [⟨#[115, 110, 97, 112, 45, 57]⟩] (w8.alloc (.cells #[.string ⟨#[115, 110, 97, 112, 45, 57]⟩] 9)) (HasT8.of_row12 ho8 hb9) ⟨_, _, rfl, Nat.le_refl _, (fun h => by cases h), fun _ => ⟨w8.heap.size, 0, rfl, box_lt hB9, fun i hi => by
    have hi0 : i = 0 := by have : i < 1 := hi; omega
    subst hi0
    exact box_cell hB9 0⟩⟩ (by decide) (by decide)
  rw [decide_eq_true rfl] at kt
  have HB8 : Hid (Below W.heap.size W (w8.alloc (.cells #[.string ⟨#[115, 110, 97, 112, 45, 57]⟩] 9))) := HB7.out.trans ((hb8.trans (hb9.mono hb8.size)).mono HB7.out.size)
  clear kL ho8 hb8 hb9 hB9 cy hst
  go_wp2_with fail
  refine kt.mono ?_
  rintro _ w9 ⟨rfl, hb9⟩
  have HB9 : Hid (Below W.heap.size W w9) := HB8.out.trans (hb9.mono HB8.out.size)
  clear kt hb9
  go_wp2
  go_ret
  exact ⟨rfl, HB9.out⟩
theorem livesS_all {w : World} (h : Gl11 w) : ∀ V, Below w.heap.size w V → Calls Tryz.prog 6 #[] V fun e w' => e = .returned (.bool true) ∧ Below V.heap.size V w' := fun V hb => livesS_any V (h.below hb (Nat.le_refl _))
end Go.Proofs.YthlelcmifolnfaaGreatDoor

namespace Go.Proofs.YthlelcmifolnfaaGreatDoor
open Go.RowKit
theorem chunk_lens {s : Snap10} {c : List Int} (h : c ∈ chunks12 s) : 9 ≤ c.length ∧ c.length ≤ 4104 := by
  unfold chunks12 at h
  have hh := head_len s (snapB s)
  rcases List.mem_cons.1 h with rfl | h
  · rw [frameB_length]; omega
  · obtain ⟨p, hp, rfl⟩ := List.mem_map.1 h
    have h2 := pieces_len hp
    unfold pieces12 at hp
    obtain ⟨j, hj, rfl⟩ := List.mem_map.1 hp
    have h3 := npiece_lt.2 (List.mem_range.1 hj)
    have h4 : 1 ≤ (piece12 (snapB s) j).length := by
      unfold piece12
      rw [List.length_take, List.length_drop]
      omega
    rw [frameB_length]
    omega
end Go.Proofs.YthlelcmifolnfaaGreatDoor

namespace Go.Proofs.YthlelcmifolnfaaGreatDoor
open Go.RowKit Go.Shelf Go.Maps
attribute [local go_sem ↓] ldS_exec stS_exec ldS_execI stS_execI ldS_run ldS_box oc_int oc_bool oc_string oc_slice oc_pointer
theorem lay12 (w : World) (Y : SnapV) (hF : FitsS w Y) : ∃ w', (w.alloc (.cells #[.int .i64 0, .int .i64 0, .slice none 0 0, .slice none 0 0, .slice none 0 0] 27)).setCells w.heap.size 0 Y.arr.toList = w' ∧ Below w.heap.size w w' ∧ SnapAt w' w.heap.size Y ∧ FitsS w' Y := by
  have hbx := heap_alloc_new w (.cells #[.int .i64 0, .int .i64 0, .slice none 0 0, .slice none 0 0, .slice none 0 0] 27)
  have hb : Below w.heap.size w ((w.alloc (.cells #[.int .i64 0, .int .i64 0, .slice none 0 0, .slice none 0 0, .slice none 0 0] 27)).setCells w.heap.size 0 Y.arr.toList) := setCells_below (Nat.le_refl _) _ _ ((Below.refl _ _).alloc (Nat.le_refl _) _)
  exact ⟨_, rfl, hb, setS_box Y hbx rfl, hF.below hb⟩

def TrE (W : World) (e : Ending) (w' : World) : Prop := e = .returned (.bool true) ∧ Below W.heap.size W w'

theorem RowC.at {w : World} {B : Nat} {s : Sl10} {ys : List (Sl10 × List Int)} (h : RowC w B s ys) {j : Nat} (hj : j < ys.length) : ∃ g, s.p = some ⟨g, 0, none⟩ ∧ s.n = ys.length ∧ s.n ≤ s.c ∧ g < w.heap.size ∧ ∃ y : Sl10 × List Int, ys[j]? = some y ∧ w.cell? ⟨g, j, none⟩ = some (.slice y.1.p y.1.n y.1.c) ∧ y ∈ ys := by
  rcases h.row.2 with ⟨hv, hn⟩ | ⟨g, cap, cur, hv, hB, hg, hnc, _, _, _⟩
  · omega
  · have hv' := hv
    simp only [Value.slice.injEq] at hv
    obtain ⟨e1, e2, e3⟩ := hv
    refine ⟨g, e1, e2, by omega, box_lt hg, ys[j], List.getElem?_eq_getElem hj, ?_, List.getElem_mem hj⟩
    have hc := World.ownsRow.cells h.row (g := g) (by rw [hv']; rfl) j (slV ys[j]) (by simp [hj])
    rw [Addr.add_lit, Nat.zero_add] at hc
    exact hc
theorem RowC.num {w : World} {B : Nat} {s : Sl10} {ys : List (Sl10 × List Int)} (h : RowC w B s ys) : s.n = ys.length := by
  rcases h.row.2 with ⟨hv, hn⟩ | ⟨g, cap, cur, hv, hB, hg, hnc, _, _, _⟩
  · simp only [Value.slice.injEq] at hv; omega
  · simp only [Value.slice.injEq] at hv; omega
theorem chs_len12 {s : Snap10} : (chs12 s).flatten.length ≤ 1300000 ∧ (chs12 s).length ≤ 1000000 := by
  unfold chs12
  by_cases hg : goodS10 s = true
  · rw [if_pos hg]
    have hfw := good_few hg
    have hsb := snapB_big (s := s) ⟨by omega, by omega⟩ hfw.2.2
    have hwl := whole_len s
    have hhl := head_len s (snapB s)
    have hnp : npiece12 (snapB s) ≤ 1000 := by unfold npiece12; omega
    have hca := (chunks_at s).1
    exact ⟨by show (whole12 s).length ≤ _; omega, by omega⟩
  · rw [if_neg hg]
    exact ⟨Nat.zero_le _, Nat.zero_le _⟩

set_option maxRecDepth 100000 in
set_option maxHeartbeats 1000000 in
theorem rwhole12_any (x : SnapV) (w : World) (hF : FitsS w x) (hd : x.d.length ≤ 1048576) : Calls Tryz.prog 57 #[.agg x.arr] w (Outs w (chs12 x.s).flatten) := by
  have hb1 : Below w.heap.size w (w.alloc (.cells x.arr 27)) := (Below.refl _ _).alloc (Nat.le_refl _) _
  have hx1 : SnapAt (w.alloc (.cells x.arr 27)) w.heap.size x := heap_alloc_new w _
  have hl1 := ldS_box _ _ _ _ _ hx1 rfl
  have kc := rchunksP_any x _ (hF.below hb1) hd
  obtain ⟨hcl, hcn⟩ := @chs_len12 x.s
  have HB1 : Hid _ := hb1
  clear hx1 hF hb1
  go_enter Tryz.func57, Tryz.ntmps57
  go_wp2_with fail
  refine kc.mono ?_
  rintro _ w4 ⟨l, ys, rfl, hys, hrow, hb4⟩
  have HB4 : Hid (Below w.heap.size w w4) := HB1.out.trans (hb4.mono HB1.out.size)
  have HR4 : Hid (RowC w4 _ l ys) := hrow
  have hln := hrow.num
  have HY : Hid (ys.map Prod.snd = chs12 x.s) := hys
  rw [← hys] at hcl hcn
  rw [List.length_map] at hcn
  generalize chs12 x.s = cs at *
  have HYf : Hid (cs.flatten = (ys.map Prod.snd).flatten) := by rw [Hid, HY.out]
  obtain ⟨i0, hi8, hi0, hi1, hi2⟩ := info_parts info8c
  clear kc hl1 hb4 hrow hys HY
  go_wp2
  go_loopw [3, 9] (fun s8 s34 wr => ∃ (j : Nat) (pb : Option Addr) (nb cb : Nat), s8 = .slice pb nb cb ∧ s34 = .int .i64 (j : Nat) ∧ j ≤ ys.length ∧ Hid (Owns wr w4.heap.size 5 (.slice pb nb cb) ((ys.map Prod.snd).take j).flatten) ∧ Below w4.heap.size w4 wr) (fun _ s34 _ => ys.length - (intOf s34).toNat)
  case atStart => exact ⟨0, none, 0, 0, rfl, rfl, Nat.zero_le _, Owns.nil w4 w4.heap.size _, Below.refl _ _⟩
  case round =>
    obtain ⟨j, pb, nb, cb, rfl, rfl, hj, HO, hb⟩ := hrel
    by_cases hjn : j < ys.length
    · obtain ⟨g, hp, hn, hc, hgl, ⟨yl, yb⟩, hyj, hcell, hym⟩ := (HR4.out.below hb).at hjn
      dsimp only at hcell hn hc
      have hhas : Has wr (.slice yl.p yl.n yl.c) yb := (HR4.out.below hb).has _ hym
      have hmj : (ys.map Prod.snd)[j]? = some yb := by rw [List.getElem?_map, hyj]; rfl
      have HN : Hid (((ys.map Prod.snd).take (j + 1)).flatten = ((ys.map Prod.snd).take j).flatten ++ yb) := by
        rw [Hid, List.take_add_one, hmj, List.flatten_append]
        simp
      have hf1 := flat_pre12 (List.take_prefix (j + 1) (ys.map Prod.snd))
      rw [HN.out, List.length_append] at hf1
      have A1 : ((ys.map Prod.snd).take j).flatten.length ≤ 1099511627776 := by omega
      have A2 : yb.length ≤ 1099511627776 := by omega
      have hzb := hb.size
      have hO := HO.out
      generalize ((ys.map Prod.snd).take j).flatten = xs at *
      rw [hp] at *
      clear HO hmj hyj hym hf1
      go_wp2_with (at_builtin; refine ap_slice _ rfl _ _ 25 rfl w4.heap.size 5 i0 Tryz.underlying25 hi8 hi0 hi1 hi2 (.slice pb nb cb) xs yb rfl hhas hO A1 A2 hzb ?_; intro v' w' ho' hb'; refine Halt8.out ?_)
      obtain ⟨s', rfl, -⟩ := ho'.slice12
      have HO3 : Hid (Owns w' w4.heap.size 5 (.slice s'.p s'.n s'.c) ((ys.map Prod.snd).take (j + 1)).flatten) := by rw [Hid, HN.out]; exact ho'
      have HB3 : Hid (Below w4.heap.size w4 w') := hb.trans hb'
      clear ho' hb' hO hhas hcell HN
      constructor
      go_wp2
      go_roundw
      case rel => exact ⟨j + 1, s'.p, s'.n, s'.c, rfl, by go_num, by omega, HO3, HB3.out⟩
      case measure => simp only [intOf]; omega
    · obtain rfl : j = ys.length := by omega
      have hO0 := HO.out
      rw [List.take_of_length_le (by rw [List.length_map]; exact Nat.le_refl _), ← HYf.out] at hO0
      have HE : Hid (Outs w cs.flatten (.returned (.slice pb nb cb)) wr) := ⟨_, rfl, hO0.has, HB4.out.trans (hb.mono HB4.out.size)⟩
      clear HO hO0
      go_wp2
      go_ret
      exact HE.out
end Go.Proofs.YthlelcmifolnfaaGreatDoor

namespace Go.Proofs.YthlelcmifolnfaaGreatDoor
open Go.RowKit Go.Shelf Go.Maps
attribute [local go_sem ↓] ldS_exec stS_exec ldS_execI stS_execI ldS_run ldS_box oc_int oc_bool oc_string oc_slice oc_pointer
attribute [local go_sem ↓] slF_exec slF_execI
theorem take_no12 {P : Program} {ops : Array Oper} {Q : Exit → Act → World → Prop} {md : Region.Mode} {S : World → Prop} {fuel : Nat} {listed : Array Bool} {a : Act} {w : World} (i : Nat) (d : Option Tmp) {oi : Oper} (hi : ops[i]? = some oi) (hd : oi.dst = d)
    (hs : Region.noSelect ops = true) (hf : Region.free md ops listed i = true) (hr : (Region.ready md ops listed).contains i = true)
    (hQ : ∀ c a w, Q (.panic c) (a.put d undef) w → Q (.panic c) a w) (hw : Region.wanted oi (yielded ops a.tmps) = false) (hS : S w)
    (h : wpAnyH P md ops Q S fuel (listed.setIfInBounds i true) (a.put d undef) w) : wpAnyH P md ops Q S (fuel + 1) listed a w := by
  subst hd
  exact wpAnyH_take hi hs hf hr hQ (Or.inr ⟨hw, rfl⟩) hS h
theorem take_yes12 {P : Program} {ops : Array Oper} {Q : Exit → Act → World → Prop} {md : Region.Mode} {S : World → Prop} {fuel : Nat} {listed : Array Bool} {a : Act} {w : World} (i : Nat) (d : Option Tmp) (v : Value) {oi : Oper} (hi : ops[i]? = some oi) (hd : oi.dst = d)
    (hs : Region.noSelect ops = true) (hf : Region.free md ops listed i = true) (hr : (Region.ready md ops listed).contains i = true)
    (hQ : ∀ c a w, Q (.panic c) (a.put d v) w → Q (.panic c) a w) (hw : Region.wanted oi (yielded ops a.tmps) = true) (hy : ∀ w, S w → (execOp a.eval oi).run P w = .ok (.value v) w) (hS : S w)
    (h : wpAnyH P md ops Q S fuel (listed.setIfInBounds i true) (a.put d v) w) : wpAnyH P md ops Q S (fuel + 1) listed a w := by
  subst hd
  exact wpAnyH_take hi hs hf hr hQ (Or.inl ⟨hw, hy⟩) hS h
theorem ldS_take12 {ρ : Operand → Value} {d : Option Tmp} {x : Operand} {t : TypeId} {p : String} {af : Array Edge} {g : Option (Nat × Bool)} {W : World} {v : Value} (h : (ldS (ρ x)).run Tryz.prog W = .ok v W) : (execOp ρ { dst := d, op := .load 27 x, type := t, pos := p, after := af, guard := g }).run Tryz.prog W = .ok (.value v) W := by
  rw [ldS_exec, h]
  rfl
theorem whole_chs12 {s : Snap10} (hg : goodS10 s = true) : (chs12 s).flatten = whole12 s := by
  unfold chs12
  rw [if_pos hg]
  rfl
theorem Read12.few {b : List Int} {l : List (List Int)} {k : Nat} (h : Read12 b l k) : l.length ≤ k ∧ (l.drop 1).flatten.length ≤ k := by
  rw [h.sum]
  clear h
  have h1 : l.flatten.length ≤ (l.map fun c => c.length + 8).sum ∧ l.length ≤ (l.map fun c => c.length + 8).sum := by
    induction l with
    | nil => exact ⟨Nat.le_refl _, Nat.le_refl _⟩
    | cons c l ih =>
      rw [List.flatten_cons, List.length_append, List.map_cons, List.sum_cons, List.length_cons]
      omega
  have h2 : (l.drop 1).flatten.length ≤ l.flatten.length := by
    cases l with
    | nil => exact Nat.le_refl _
    | cons c l =>
      rw [List.flatten_cons, List.length_append, List.drop_one, List.tail_cons]
      omega
  omega
theorem drop_snoc12 {l : List (List Int)} (c : List Int) (h : 0 < l.length) : ((l ++ [c]).drop 1).flatten = (l.drop 1).flatten ++ c := by
  rw [List.drop_append_of_le_length (by omega), List.flatten_append]
  simp
theorem chs_isB12' {s : Snap10} (h : IsB s.d) : ∀ c ∈ chs12 s, IsB c := by
  intro c hc
  unfold chs12 at hc
  by_cases hg : goodS10 s = true
  · rw [if_pos hg] at hc
    exact fun z hz => by have := chunks_isB12 (s := s) h c hc z hz; omega
  · rw [if_neg hg] at hc
    cases hc
def JoE (w : World) (xs : List Int) (e : Ending) (w' : World) : Prop := ∃ Y : SnapV, e = .returned (.tuple #[.agg Y.arr, .int .i64 (join12 xs).2]) ∧ Y.s = (join12 xs).1 ∧ LiesS w' w.heap.size Y ∧ Below w.heap.size w w'

set_option maxRecDepth 100000 in
set_option maxHeartbeats 1000000 in
theorem rjoin12_any (s0 : Sl10) (xs : List Int) (w : World) (hv : Has w (.slice s0.p s0.n s0.c) xs) (hB : IsB xs) (hl : xs.length ≤ 1073741824) : Calls Tryz.prog 11 #[.slice s0.p s0.n s0.c] w (JoE w xs) := by
  generalize hs : w.heap.size = s at *
  obtain ⟨w1, hw1⟩ : ∃ w1, w.alloc (.cells #[.int .i64 0, .int .i64 0, .slice none 0 0, .slice none 0 0, .slice none 0 0] 27) = w1 := ⟨_, rfl⟩
  have hb1 : Below s w w1 := by rw [← hw1]; exact (Below.refl _ w).alloc (by omega) _
  have hz1 : w1.heap.size = s + 1 := by rw [← hw1]; simp; omega
  have b1 : w1.heap[s]? = some (.cells zeroS 27 (0, 0)) := by rw [← hw1, ← hs]; exact heap_alloc_new w _
  have hv1 : Has w1 (.slice s0.p s0.n s0.c) xs := hv.below (by rw [hs]; exact hb1) (Nat.le_refl _)
  obtain ⟨hsn, hsc, -⟩ := hv.sl12
  have HS : Hid (w.heap.size = s) := hs
  have HB1 : Hid (Below s w w1) := hb1
  have HV1 : Hid (Has w1 (.slice s0.p s0.n s0.c) xs) := hv1
  have HBy : Hid (IsB xs) := hB
  have HR1 : Hid (w1.heap[s]? = some (.cells zeroS 27 (0, 0))) := b1
  have HJ : Hid (join12 xs = if (readS12 (data12 xs)).2 = 0 ∧ whole12 (readS12 (data12 xs)).1 = xs then ((readS12 (data12 xs)).1, 0) else (noS10, 8)) := rfl
  have HSn : Hid (s0.n = xs.length) := hsn
  -- how a call ends that tells nothing
  have HNE : Hid (join12 xs = (noS10, 8) → ∀ V : World, Below w1.heap.size w1 V → (stS (.pointer (some ⟨s, 0, none⟩)) (.agg #[.int .i64 0, .int .i64 0, .slice none 0 0, .slice none 0 0, .slice none 0 0])).run Tryz.prog V = .ok () (V.setCells s 0 noSV.arr.toList) ∧ s < V.heap.size ∧ (V.setCells s 0 noSV.arr.toList).heap[s]? = some (.cells noSV.arr 27 (0, 0)) ∧ JoE w xs (.returned (.tuple #[.agg noSV.arr, .int .i64 8])) (V.setCells s 0 noSV.arr.toList)) := fun hj V hV => by
    have hr := box_below HR1.out hV
    refine ⟨stS_arr noSV (there_box hr 0 5 (Nat.le_refl _)), box_lt hr, setS_box noSV hr rfl, noSV, by rw [hj], by rw [hj]; rfl, LiesS.nil _ _, ?_⟩
    rw [HS.out]
    exact setCells_below (Nat.le_refl _) _ _ (HB1.out.trans (hV.mono (by omega)))
  obtain ⟨i0, hi8, hi0, hi1, hi2⟩ := info_parts info8c
  clear hv hv1 hB b1 hb1 hsn
  go_enter Tryz.func11, Tryz.ntmps11
  go_wp2
  go_loopw [4, 5, 6] (fun s4 s5 s6 wr => ∃ (k i : Nat) (l : List (List Int)) (sd : Sl10), s4 = .slice sd.p sd.n sd.c ∧ s5 = .int .i64 (k : Nat) ∧ s6 = .int .i64 (i : Nat) ∧ k ≤ xs.length ∧ i ≤ k ∧ Hid (l.length = i) ∧ Hid (Read12 xs l k) ∧ Hid (Owns wr w1.heap.size 5 (.slice sd.p sd.n sd.c) (l.drop 1).flatten) ∧ Below w1.heap.size w1 wr) (fun _ s5 _ _ => xs.length - (intOf s5).toNat)
  case atStart => exact ⟨0, 0, [], nilS10, rfl, rfl, rfl, Nat.zero_le _, Nat.le_refl _, rfl, Read12.zero xs, Owns.nil w1 w1.heap.size _, Below.refl _ _⟩
  case round =>
    obtain ⟨k, i, l, sd, rfl, rfl, rfl, hk, hik, HL, HR, HO, hb⟩ := hrel
    have hvr := HV1.out.below hb (Nat.le_refl _)
    have hn0 : s0.n ≤ 1073741824 := by have := HSn.out; omega
    have hnk : k ≤ s0.n := by have := HSn.out; omega
    by_cases hkn : k < s0.n
    · have hsl := slF_at12 hvr (lo := k) (by omega)
      obtain ⟨s', hcv, hcut, -⟩ := hvr.cut12 (lo := k) (by omega)
      rw [hcv] at hsl
      have ku := runframe_any _ (xs.drop k) wr hcut (by rw [List.length_drop]; omega) (fun z hz => HBy.out z (List.mem_of_mem_drop hz))
      obtain ⟨hun, hul⟩ := unframe_nat (xs.drop k)
      rw [hun] at ku
      by_cases hu : (unframeS (xs.drop k)).2.2 = 0
      · have HRn : Hid (Read12 xs (l ++ [(unframeS (xs.drop k)).1]) (k + (unframeS (xs.drop k)).2.1.toNat)) := HR.out.step hu
        have hl8 := unframe_len hu
        have HF : Hid _ := HR.out.few
        have hfl := HR.out.few.2
        rw [hu] at ku
        rw [List.length_drop] at hul hl8
        generalize (unframeS (xs.drop k)).2.1.toNat = n at *
        generalize (unframeS (xs.drop k)).1 = c at *
        have hn8 : 8 ≤ n ∧ c.length ≤ n ∧ k + n ≤ xs.length := by omega
        clear hl8 hul hun hu hcut hcv
        by_cases hii : i = 0
        · subst hii
          have HLn : Hid (l = []) := List.eq_nil_of_length_eq_zero HL.out
          go_wp2_with fail
          refine ku.mono ?_
          rintro _ w2 ⟨v2, rfl, -, hb2⟩
          have HO2 : Hid (Owns w2 w1.heap.size 5 (.slice sd.p sd.n sd.c) ((l ++ [c]).drop 1).flatten) := by
            have h := HO.out.below hb2 (Nat.le_refl _)
            rw [HLn.out] at h ⊢
            exact h
          have HB2 : Hid (Below w1.heap.size w1 w2) := hb.trans (hb2.mono hb.size)
          clear ku hsl hb2 HO hvr
          go_wp2
          go_roundw
          case rel => exact ⟨k + n, 1, l ++ [c], sd, rfl, by go_num, by go_num, by omega, by omega, by rw [HLn.out]; rfl, HRn, HO2, HB2.out⟩
          case measure => simp only [intOf]; omega
        · have hii' : 0 < i := by omega
          go_wp2_with fail
          refine ku.mono ?_
          rintro _ w2 ⟨v2, rfl, hv2, hb2⟩
          have hO := HO.out.below hb2 (Nat.le_refl _)
          have HB2 : Hid (Below w1.heap.size w1 w2) := hb.trans (hb2.mono hb.size)
          have hzb := HB2.out.size
          have A1 : (l.drop 1).flatten.length ≤ 1099511627776 := by omega
          have A2 : c.length ≤ 1099511627776 := by omega
          have HDs : Hid (((l ++ [c]).drop 1).flatten = (l.drop 1).flatten ++ c) := drop_snoc12 c (by rw [HL.out]; omega)
          have HLs : Hid ((l ++ [c]).length = i + 1) := by rw [Hid, List.length_append, HL.out]; rfl
          generalize (l.drop 1).flatten = ds at *
          generalize l ++ [c] = l' at *
          clear ku hsl hb2 HO hvr
          go_wp2_with (at_builtin; refine ap_slice _ rfl _ _ 25 rfl w1.heap.size 5 i0 Tryz.underlying25 hi8 hi0 hi1 hi2 (.slice sd.p sd.n sd.c) ds c rfl hv2 hO A1 A2 hzb ?_; intro v3 w3 ho3 hb3; refine Halt8.out ?_)
          obtain ⟨s3, rfl, -⟩ := ho3.slice12
          have HO3 : Hid (Owns w3 w1.heap.size 5 (.slice s3.p s3.n s3.c) (l'.drop 1).flatten) := by rw [Hid, HDs.out]; exact ho3
          have HB3 : Hid (Below w1.heap.size w1 w3) := HB2.out.trans hb3
          clear ho3 hb3 hO hv2
          constructor
          go_wp2
          go_roundw
          case rel => exact ⟨k + n, i + 1, l', s3, rfl, by go_num, by go_num, by omega, by omega, HLs, HRn, HO3, HB3.out⟩
          case measure => simp only [intOf]; omega
      · have hj := HR.out.bad (by have := HSn.out; omega) hu
        have hu' : ((unframeS (xs.drop k)).2.2 != 0) = true := by simpa using hu
        generalize (unframeS (xs.drop k)).2.2 = ue at *
        generalize (unframeS (xs.drop k)).2.1.toNat = n at *
        generalize (unframeS (xs.drop k)).1 = c at *
        clear hcut hcv hul hun
        go_wp2_with fail
        refine ku.mono ?_
        rintro _ w2 ⟨v2, rfl, -, hb2⟩
        obtain ⟨hst, hlt, hbx, hE⟩ := HNE.out hj w2 (hb.trans (hb2.mono hb.size))
        have HE : Hid _ := hE
        have HBx : Hid _ := hbx
        clear ku hsl hb2 HO hvr hbx hE
        go_wp2
        refine bodyPost_ret (ret_cell9 rfl _ _ s _ _ _ _ rfl HBx.out Tryz.underlying27 rfl (by kernel_rfl)) rfl ?_
        exact HE.out
    · obtain rfl : k = s0.n := by omega
      have hdn : Read12 xs l xs.length := by
        have h := HR.out
        rw [HSn.out] at h
        exact h
      have hdd := hdn.done
      have hO := HO.out
      rw [hdd] at hO
      have hdl0 : (data12 xs).length ≤ xs.length := by
        have h := hdn.few.2
        rw [hdd] at h
        exact h
      have hBD : IsB (data12 xs) := conts_isB12 _ fun z hz => HBy.out z (List.mem_of_mem_drop hz)
      have kr := rreadS_own _ (data12 xs) wr hO.has hBD (by omega)
      have HRd : Hid (whole10 goodS10 noS10 (snap10 9 (data12 xs, false)) = readS12 (data12 xs)) := rfl
      rw [HRd.out] at kr
      have hgd := @readS_good (data12 xs)
      generalize readS12 (data12 xs) = RR at *
      obtain ⟨rs, re⟩ := RR
      dsimp only at kr hgd HJ
      have hsv := hb.size
      have HBr : Hid (Below w1.heap.size w1 wr) := hb
      clear HR HO hO hdd hdn HRd hBD hdl0 HL hb hvr
      go_wp2_with fail
      refine kr.mono ?_
      rintro _ w5 ⟨Y, rfl, hY, hLY, hb5⟩
      obtain ⟨w6, hw6, hb6, hy6, hF6⟩ := lay12 w5 Y hLY.fits
      have hst := stS_arr Y (there_box (heap_alloc_new w5 (.cells #[.int .i64 0, .int .i64 0, .slice none 0 0, .slice none 0 0, .slice none 0 0] 27)) 0 5 (Nat.le_refl _))
      rw [hw6] at hst
      have hbr6 : Below wr.heap.size wr w6 := hb5.trans (hb6.mono hb5.size)
      have HB6 : Hid (Below w1.heap.size w1 w6) := HBr.out.trans (hbr6.mono hsv)
      have HL6 : Hid (LiesS w6 wr.heap.size Y) := hLY.below hb6
      have HY : Hid (Y.s = rs) := hY
      by_cases hre : re = 0
      · have hg := hgd hre
        have hld := ldS_box _ _ _ _ _ hy6 rfl
        have hd6 : Y.d.length ≤ 1048576 := by
          rw [show Y.d = rs.d from congrArg Snap10.d hY]
          exact (good_few hg).2.2
        have kw := rwhole12_any Y w6 hF6 hd6
        have hgY : goodS10 Y.s = true := by rw [hY]; exact hg
        rw [whole_chs12 hgY] at kw
        have HwB : Hid (IsB (whole12 Y.s)) := by
          rw [Hid, ← whole_chs12 hgY]
          intro z hz
          obtain ⟨c, hc, hz⟩ := List.mem_flatten.1 hz
          exact chs_isB12' hF6.b c hc z hz
        have HJ2 : Hid (join12 xs = if whole12 Y.s = xs then (Y.s, 0) else (noS10, 8)) := by
          rw [Hid, HJ.out, hY]
          by_cases hw : whole12 rs = xs
          · rw [if_pos ⟨hre, hw⟩, if_pos hw]
          · rw [if_neg (fun h => hw h.2), if_neg hw]
        have HX6 : Hid (SnapAt w6 w5.heap.size Y) := hy6
        generalize hWh : whole12 Y.s = wh at *
        subst hre
        have KW : Hid (∀ V, Below w6.heap.size w6 V → Calls Tryz.prog 57 #[.agg Y.arr] V (Outs V wh)) := fun V h => by
          have k := rwhole12_any Y V (hF6.below h) hd6
          rwa [whole_chs12 hgY, hWh] at k
        have KV : Hid (∀ V v, Has V v wh → (convert 25 9 v).run Tryz.prog V = .ok (.string (strOfNums wh)) V) := fun V v h => h.conv (P := Tryz.prog) 25 5 9 Tryz.underlying25 Tryz.underlying5 Tryz.underlying9
        have hq := strOf_inj12 HwB.out HBy.out
        have KY : Hid (∀ A, Below w6.heap.size w6 A → ((ldS (.pointer (some ⟨w5.heap.size, 0, none⟩))).run Tryz.prog A = .ok (.agg Y.arr) A ∧ (convert 25 9 (.slice s0.p s0.n s0.c)).run Tryz.prog A = .ok (.string (strOfNums xs)) A ∧ Below w6.heap.size w6 A)) := fun A h => ⟨ldS_box A _ _ _ _ (box_below HX6.out h) rfl, (HV1.out.below (HB6.out.trans (h.mono HB6.out.size)) (Nat.le_refl _)).conv (P := Tryz.prog) 25 5 9 Tryz.underlying25 Tryz.underlying5 Tryz.underlying9, h⟩
        clear HJ hg hgY hgd hd6 hY hLY hb5 hb6 hF6 hbr6 hy6 kr hWh kw
        generalize strOfNums wh = str1 at *
        generalize strOfNums xs = str2 at *
        have KX : Hid (∀ A B, ((ldS (.pointer (some ⟨w5.heap.size, 0, none⟩))).run Tryz.prog A = .ok (.agg Y.arr) A ∧ (convert 25 9 (.slice s0.p s0.n s0.c)).run Tryz.prog A = .ok (.string str2) A ∧ Below w6.heap.size w6 A) → Below A.heap.size A B → ((ldS (.pointer (some ⟨w5.heap.size, 0, none⟩))).run Tryz.prog B = .ok (.agg Y.arr) B ∧ (convert 25 9 (.slice s0.p s0.n s0.c)).run Tryz.prog B = .ok (.string str2) B ∧ Below w6.heap.size w6 B)) := fun A B h hb => KY.out B (h.2.2.trans (hb.mono h.2.2.size))
        have KB : Hid (∀ A, ((ldS (.pointer (some ⟨w5.heap.size, 0, none⟩))).run Tryz.prog A = .ok (.agg Y.arr) A ∧ (convert 25 9 (.slice s0.p s0.n s0.c)).run Tryz.prog A = .ok (.string str2) A ∧ Below w6.heap.size w6 A) → Below w6.heap.size w6 A) := fun A h => h.2.2
        have sb0 := KY.out w6.drew (on_drew12 (Below.refl _ _))
        go_upto_region 13 with fail
        refine wp_region_held_drew (S := fun w' => (ldS (.pointer (some ⟨w5.heap.size, 0, none⟩))).run Tryz.prog w' = .ok (.agg Y.arr) w' ∧ (convert 25 9 (.slice s0.p s0.n s0.c)).run Tryz.prog w' = .ok (.string str2) w' ∧ Below w6.heap.size w6 w') (by kernel_rfl) sb0 (fun hS => ?_)
        refine take_yes12 0 (some 42) (.int .i64 0) rfl rfl (by kernel_rfl) (by kernel_rfl) (by kernel_rfl) (fun _ _ _ h => h) (by rfl) (by intro W hW; go_simp) hS ?_
        simp only [Act.put, List.setIfInBounds_toArray, List.set_cons_zero, List.set_cons_succ]
        refine take_yes12 1 (some 43) (.bool false) rfl rfl (by kernel_rfl) (by kernel_rfl) (by kernel_rfl) (fun _ _ _ h => h) (by rfl) (by intro W hW; go_simp) hS ?_
        simp only [Act.put, List.setIfInBounds_toArray, List.set_cons_zero, List.set_cons_succ]
        refine take_yes12 2 (some 44) (.bool false) rfl rfl (by kernel_rfl) (by kernel_rfl) (by kernel_rfl) (fun _ _ _ h => h) (by rfl) (by intro W hW; go_simp) hS ?_
        simp only [Act.put, List.setIfInBounds_toArray, List.set_cons_zero, List.set_cons_succ]
        refine take_yes12 3 (some 45) (.agg Y.arr) rfl rfl (by kernel_rfl) (by kernel_rfl) (by kernel_rfl) (fun _ _ _ h => h) (by rfl) (by intro W hW; obtain ⟨q1, -, -⟩ := hW; exact ldS_take12 q1) hS ?_
        simp only [Act.put, List.setIfInBounds_toArray, List.set_cons_zero, List.set_cons_succ]
        refine take_yes12 6 (some 48) (.slice s0.p s0.n s0.c) rfl rfl (by kernel_rfl) (by kernel_rfl) (by kernel_rfl) (fun _ _ _ h => h) (by rfl) (by intro W hW; go_simp) hS ?_
        simp only [Act.put, List.setIfInBounds_toArray, List.set_cons_zero, List.set_cons_succ]
        refine take_yes12 7 (some 49) (.string str2) rfl rfl (by kernel_rfl) (by kernel_rfl) (by kernel_rfl) (fun _ _ _ h => h) (by rfl) (by intro W hW; have q2 := hW.2.1; go_simp) hS ?_
        simp only [Act.put, List.setIfInBounds_toArray, List.set_cons_zero, List.set_cons_succ]
        refine wpAnyH_ready (rs := [4]) (by kernel_rfl) (by simp) ?_
        refine AllReadyH.cons rfl (fun K hK => ?_) AllReadyH.nil
        go_simp
        refine Calls.mono (KW.out _ (KB.out _ hS)) ?_
        rintro _ w7 ⟨v7, rfl, hv7, hb7⟩
        have cv7 := KV.out _ _ hv7
        go_simp
        refine hK.out _ _ (KX.out _ _ hS hb7) (fun hS5 => ?_)
        clear hK K
        try simp only [Act.put, List.setIfInBounds_toArray, List.set_cons_zero, List.set_cons_succ]
        refine wpAnyH_ready (rs := [5]) (by kernel_rfl) (by simp) ?_
        refine AllReadyH.cons rfl (fun K hK => ?_) AllReadyH.nil
        go_simp
        refine hK.out _ _ hS5 (fun hS6 => ?_)
        clear hK K
        try simp only [Act.put, List.setIfInBounds_toArray, List.set_cons_zero, List.set_cons_succ]
        have hs7 := KB.out _ hS5
        have HB7 : Hid (Below w1.heap.size w1 w7) := HB6.out.trans (hs7.mono HB6.out.size)
        have hy7 : SnapAt w7 w5.heap.size Y := box_below HX6.out hs7
        have hL7 := HL6.out.below hs7
        have hld7 := ldS_box w7 _ _ _ _ hy7 rfl
        have HL7 : Hid _ := hL7
        have r7 := box_below HR1.out HB7.out
        have HR7 : Hid _ := r7
        have lx7 := box_lt hy7
        have lr7 := box_lt r7
        clear hld hv7 hb7 HX6 hL7 HB6 HL6 hst hs7 KW KV KY KX KB cv7
        by_cases hw : wh = xs
        · rw [decide_eq_true hw] at hq
          rw [if_pos hw] at HJ2
          have hqe : str1.toList = str2.toList := beq_iff_eq.1 hq
          have hst7 := stS_arr Y (there_box r7 0 5 (Nat.le_refl _))
          have R8 : Hid ((w7.setCells s 0 Y.arr.toList).heap[s]? = some (.cells Y.arr 27 (0, 0))) := setS_box Y r7 rfl
          have HE : Hid (JoE w xs (.returned (.tuple #[.agg Y.arr, .int .i64 0])) (w7.setCells s 0 Y.arr.toList)) := by
            refine ⟨Y, by rw [HJ2.out], by rw [HJ2.out], (HL7.out.kept (setCells_grown s Y.arr.toList 0 w7) (by omega)).mono (by rw [HS.out]; omega), ?_⟩
            rw [HS.out]
            exact setCells_below (Nat.le_refl _) _ _ (HB1.out.trans (HB7.out.mono (by omega)))
          clear hq hw r7 hy7
          refine take_yes12 8 (some 50) (.bool false) rfl rfl (by kernel_rfl) (by kernel_rfl) (by kernel_rfl) (fun _ _ _ h => h) (by rfl) (by intro W hW; go_simp) hS6 ?_
          simp only [Act.put, List.setIfInBounds_toArray, List.set_cons_zero, List.set_cons_succ]
          refine take_yes12 9 (some 51) (.bool false) rfl rfl (by kernel_rfl) (by kernel_rfl) (by kernel_rfl) (fun _ _ _ h => h) (by rfl) (by intro W hW; go_simp) hS6 ?_
          simp only [Act.put, List.setIfInBounds_toArray, List.set_cons_zero, List.set_cons_succ]
          refine wpAnyH_done (by kernel_rfl) ?_ _
          go_wp2
          refine bodyPost_ret (ret_cell9 rfl _ _ s _ _ _ _ rfl R8.out Tryz.underlying27 rfl (by kernel_rfl)) rfl ?_
          exact HE.out
        · rw [decide_eq_false hw] at hq
          rw [if_neg hw] at HJ2
          have hqe : ¬ str1.toList = str2.toList := fun e => by rw [beq_iff_eq.2 e] at hq; cases hq
          obtain ⟨hst7, hlt7, hbx7, hE⟩ := HNE.out HJ2.out w7 HB7.out
          have HE : Hid _ := hE
          have HBx : Hid _ := hbx7
          clear hq hw r7 hy7 hE hbx7 hld7
          refine take_yes12 8 (some 50) (.bool true) rfl rfl (by kernel_rfl) (by kernel_rfl) (by kernel_rfl) (fun _ _ _ h => h) (by rfl) (by intro W hW; go_simp) hS6 ?_
          simp only [Act.put, List.setIfInBounds_toArray, List.set_cons_zero, List.set_cons_succ]
          refine take_yes12 9 (some 51) (.bool true) rfl rfl (by kernel_rfl) (by kernel_rfl) (by kernel_rfl) (fun _ _ _ h => h) (by rfl) (by intro W hW; go_simp) hS6 ?_
          simp only [Act.put, List.setIfInBounds_toArray, List.set_cons_zero, List.set_cons_succ]
          refine wpAnyH_done (by kernel_rfl) ?_ _
          go_wp2
          refine bodyPost_ret (ret_cell9 rfl _ _ s _ _ _ _ rfl HBx.out Tryz.underlying27 rfl (by kernel_rfl)) rfl ?_
          exact HE.out
      · have hre' : (re != 0) = true := by simpa using hre
        have HJ2 : Hid (join12 xs = (noS10, 8)) := by rw [Hid, HJ.out, if_neg (fun h => hre h.1)]
        obtain ⟨hst7, hlt7, hbx7, hE⟩ := HNE.out HJ2.out w6.drew (on_drew12 HB6.out)
        have HE : Hid _ := hE
        have HBx : Hid _ := hbx7
        clear HJ hgd hY hLY hb5 hb6 hF6 hbr6 hy6 kr hE hbx7
        go_upto_region 13 with fail
        refine wp_region_held_drew (S := fun w' => w' = w6.drew) (by kernel_rfl) rfl (fun hS => ?_)
        refine take_yes12 0 (some 42) (.int .i64 re) rfl rfl (by kernel_rfl) (by kernel_rfl) (by kernel_rfl) (fun _ _ _ h => h) (by rfl) (by intro W hW; go_simp; try simp [hre']) hS ?_
        simp only [Act.put, List.setIfInBounds_toArray, List.set_cons_zero, List.set_cons_succ]
        refine take_yes12 1 (some 43) (.bool true) rfl rfl (by kernel_rfl) (by kernel_rfl) (by kernel_rfl) (fun _ _ _ h => h) (by rfl) (by intro W hW; go_simp; try simp [hre']) hS ?_
        simp only [Act.put, List.setIfInBounds_toArray, List.set_cons_zero, List.set_cons_succ]
        refine take_yes12 2 (some 44) (.bool true) rfl rfl (by kernel_rfl) (by kernel_rfl) (by kernel_rfl) (fun _ _ _ h => h) (by rfl) (by intro W hW; go_simp; try simp [hre']) hS ?_
        simp only [Act.put, List.setIfInBounds_toArray, List.set_cons_zero, List.set_cons_succ]
        refine take_no12 3 (some 45) rfl rfl (by kernel_rfl) (by kernel_rfl) (by kernel_rfl) (fun _ _ _ h => h) (by rfl) hS ?_
        simp only [Act.put, List.setIfInBounds_toArray, List.set_cons_zero, List.set_cons_succ]
        refine take_no12 4 (some 46) rfl rfl (by kernel_rfl) (by kernel_rfl) (by kernel_rfl) (fun _ _ _ h => h) (by rfl) hS ?_
        simp only [Act.put, List.setIfInBounds_toArray, List.set_cons_zero, List.set_cons_succ]
        refine take_no12 5 (some 47) rfl rfl (by kernel_rfl) (by kernel_rfl) (by kernel_rfl) (fun _ _ _ h => h) (by rfl) hS ?_
        simp only [Act.put, List.setIfInBounds_toArray, List.set_cons_zero, List.set_cons_succ]
        refine take_no12 6 (some 48) rfl rfl (by kernel_rfl) (by kernel_rfl) (by kernel_rfl) (fun _ _ _ h => h) (by rfl) hS ?_
        simp only [Act.put, List.setIfInBounds_toArray, List.set_cons_zero, List.set_cons_succ]
        refine take_no12 7 (some 49) rfl rfl (by kernel_rfl) (by kernel_rfl) (by kernel_rfl) (fun _ _ _ h => h) (by rfl) hS ?_
        simp only [Act.put, List.setIfInBounds_toArray, List.set_cons_zero, List.set_cons_succ]
        refine take_no12 8 (some 50) rfl rfl (by kernel_rfl) (by kernel_rfl) (by kernel_rfl) (fun _ _ _ h => h) (by rfl) hS ?_
        simp only [Act.put, List.setIfInBounds_toArray, List.set_cons_zero, List.set_cons_succ]
        refine take_yes12 9 (some 51) (.bool true) rfl rfl (by kernel_rfl) (by kernel_rfl) (by kernel_rfl) (fun _ _ _ h => h) (by rfl) (by intro W hW; go_simp; try simp [hre']) hS ?_
        simp only [Act.put, List.setIfInBounds_toArray, List.set_cons_zero, List.set_cons_succ]
        refine wpAnyH_done (by kernel_rfl) ?_ _
        go_wp2
        refine bodyPost_ret (ret_cell9 rfl _ _ s _ _ _ _ rfl HBx.out Tryz.underlying27 rfl (by kernel_rfl)) rfl ?_
        exact HE.out
end Go.Proofs.YthlelcmifolnfaaGreatDoor

namespace Go.Proofs.YthlelcmifolnfaaGreatDoor
open Go.RowKit Go.Shelf Go.Maps
def hole12 (xs : List Int) (k : Nat) (y : Int) : List Int := xs.take k ++ y :: xs.drop k
theorem hole_len12 (xs : List Int) (k : Nat) (y : Int) : (hole12 xs k y).length = xs.length + 1 := by
  unfold hole12
  rw [List.length_append, List.length_cons, List.length_take, List.length_drop]
  omega
theorem hole_new12 (xs : List Int) (n : Int) : xs ++ [n] = hole12 xs xs.length n := by
  unfold hole12
  rw [List.take_length, List.drop_length]
theorem hole_set12 {xs : List Int} {k : Nat} (hk : k ≤ xs.length) (y z : Int) : (hole12 xs k y).set k z = hole12 xs k z := by
  unfold hole12
  have hl : (xs.take k).length = k := by rw [List.length_take]; omega
  rw [List.set_append_right _ _ (by omega), hl, Nat.sub_self]
  rfl
theorem hole_get12 {xs : List Int} {k : Nat} (hk : k < xs.length) (y : Int) : (hole12 xs (k + 1) y).getD k 0 = xs.getD k 0 := by
  unfold hole12
  have hl : (xs.take (k + 1)).length = k + 1 := by rw [List.length_take]; omega
  rw [List.getD_eq_getElem?_getD, List.getElem?_append_left (by omega), List.getElem?_take_of_lt (by omega), ← List.getD_eq_getElem?_getD]
theorem hole_down12 {xs : List Int} {k : Nat} (hk : k < xs.length) : hole12 xs (k + 1) (xs.getD k 0) = hole12 xs k (xs.getD k 0) := by
  unfold hole12
  rw [List.take_add_one, List.drop_eq_getElem_cons hk, List.getD_eq_getElem?_getD, List.getElem?_eq_getElem hk, List.append_assoc]
  rfl
theorem hole_end12 {xs : List Int} {k : Nat} {n : Int} (hu : upI11 xs) (hk : k ≤ xs.length) (hr : ∀ a ∈ xs.drop k, n < a) (hl : 0 < k → ¬ n < xs.getD (k - 1) 0) : hole12 xs k n = insI11 xs n := by
  unfold hole12 insI11
  have hlow : ∀ a ∈ xs.take k, a ≤ n := by
    intro a ha
    obtain ⟨i, hi, rfl⟩ := List.mem_iff_getElem.1 ha
    rw [List.length_take] at hi
    rw [List.getElem_take]
    have h1 := hl (by omega)
    rw [List.getD_eq_getElem?_getD, List.getElem?_eq_getElem (by omega), Option.getD_some] at h1
    rcases Nat.lt_or_ge i (k - 1) with h2 | h2
    · have h3 := List.pairwise_iff_getElem.1 hu i (k - 1) (by omega) (by omega) h2
      omega
    · have e : i = k - 1 := by omega
      subst e
      omega
  have e : xs = xs.take k ++ xs.drop k := (List.take_append_drop k xs).symm
  have h1 : (xs.filter fun a => decide (a ≤ n)) = xs.take k := by
    conv => lhs; rw [e]
    rw [List.filter_append, List.filter_eq_self.2 (by simpa using hlow), List.filter_eq_nil_iff.2 (by intro a ha; have := hr a ha; simp; omega), List.append_nil]
  have h2 : (xs.filter fun a => decide (n < a)) = xs.drop k := by
    conv => lhs; rw [e]
    rw [List.filter_append, List.filter_eq_nil_iff.2 (by intro a ha; have := hlow a ha; simp; omega), List.nil_append, List.filter_eq_self.2 (by simpa using hr)]
  rw [h1, h2]
theorem OwnsI.set12 {w : World} {B g n cap : Nat} {xs : List Int} (h : OwnsI w B (.slice (some ⟨g, 0, none⟩) n cap) xs) (j : Nat) (z : Int) :
    OwnsI (w.setCell ⟨g, j, none⟩ (.int .i64 z)) B (.slice (some ⟨g, 0, none⟩) n cap) (xs.set j z) ∧ w.grownBy (w.setCell ⟨g, j, none⟩ (.int .i64 z)) (some g) := by
  obtain rfl : xs.length = n := h.at12.1
  obtain ⟨h1, h2⟩ := World.ownsRow.stored h j (.int .i64 z)
  refine ⟨?_, h2⟩
  unfold OwnsI
  have e1 : (xs.set j z).length = xs.length := by simp
  have e2 : (xs.set j z).map (Value.int .i64) = (xs.map (Value.int .i64)).set j (.int .i64 z) := by simp [List.map_set]
  rw [e1, e2]
  exact h1
theorem HasT8.at12 {w : World} {p : Option Addr} {n c : Nat} {xs : List ByteArray} (h : HasT8 w (.slice p n c) xs) : xs.length = n ∧ ∀ j, j < n → ∃ b o, p = some ⟨b, o, none⟩ ∧ b < w.heap.size ∧ n ≤ c ∧ w.cell? ⟨b, o + j, none⟩ = some (.string (xs.getD j ByteArray.empty)) := by
  obtain ⟨q, d, e, h1, -, h2⟩ := h
  simp only [Value.slice.injEq] at e
  obtain ⟨rfl, rfl, rfl⟩ := e
  refine ⟨rfl, fun j hj => ?_⟩
  obtain ⟨b, o, rfl, hb, hc⟩ := h2 (by omega)
  exact ⟨b, o, rfl, hb, h1, hc j hj⟩
theorem files_snoc12 {l : List ByteArray} {j : Nat} (h : j < l.length) : files12 (l.take (j + 1)) = if (num12 (l.getD j ByteArray.empty)).2 = true then insI11 (files12 (l.take j)) (num12 (l.getD j ByteArray.empty)).1 else files12 (l.take j) := by
  have e : l.take (j + 1) = l.take j ++ [l.getD j ByteArray.empty] := by
    rw [List.take_add_one, List.getElem?_eq_getElem h, List.getD_eq_getElem?_getD, List.getElem?_eq_getElem h]
    rfl
  unfold files12
  rw [e, List.foldl_append]
  rfl
theorem OwnsI.shape12 {w : World} {B : Nat} {v : Value} {xs : List Int} (h : OwnsI w B v xs) : ∃ p c, v = .slice p xs.length c := by
  obtain ⟨p, c, e, -⟩ := h.has
  exact ⟨p, c, e⟩
theorem OwnsI.some12 {w : World} {B : Nat} {v : Value} {xs : List Int} (h : OwnsI w B v xs) (h0 : 0 < xs.length) : ∃ g c, v = .slice (some ⟨g, 0, none⟩) xs.length c ∧ B ≤ g ∧ g < w.heap.size ∧ xs.length ≤ c ∧ (∀ j, j < xs.length → w.cell? ⟨g, j, none⟩ = some (.int .i64 (xs.getD j 0))) ∧ ∀ j, w.frozen? ⟨g, j, none⟩ = false := by
  obtain ⟨p, c, rfl⟩ := h.shape12
  obtain ⟨h1, h2, h3⟩ := h.at12
  obtain ⟨g, rfl, hB, hg, -⟩ := h3 0 h0
  refine ⟨g, c, rfl, hB, hg, h2, fun j hj => ?_, World.ownsRow.frozenAt h⟩
  obtain ⟨g', e, _, _, hc⟩ := h3 j hj
  cases e
  exact hc
structure Hole12 (w0 wr : World) (g c : Nat) (xs : List Int) (n : Int) (k : Nat) : Prop where
  le : k ≤ xs.length
  own : ∃ y, OwnsI wr w0.heap.size (.slice (some ⟨g, 0, none⟩) (xs.length + 1) c) (hole12 xs k y)
  up : ∀ a ∈ xs.drop k, n < a
  bel : Below w0.heap.size w0 wr
theorem Hole12.cells {w0 wr : World} {g c : Nat} {xs : List Int} {n : Int} {k : Nat} (h : Hole12 w0 wr g c xs n k) : xs.length + 1 ≤ c ∧ g < wr.heap.size ∧ (∀ j, wr.frozen? ⟨g, j, none⟩ = false) ∧ (∃ v, wr.cell? ⟨g, k, none⟩ = some v) ∧ ∀ j, k = j + 1 → wr.cell? ⟨g, j, none⟩ = some (.int .i64 (xs.getD j 0)) := by
  obtain ⟨y, ho⟩ := h.own
  have hl := hole_len12 xs k y
  obtain ⟨g', c', e, hB, hg, hc, hcell, hf⟩ := ho.some12 (by omega)
  simp only [Value.slice.injEq, Option.some.injEq, Addr.mk.injEq] at e
  obtain ⟨⟨rfl, -⟩, -, rfl⟩ := e
  have hle := h.le
  refine ⟨by omega, hg, hf, ⟨_, hcell k (by omega)⟩, fun j hj => ?_⟩
  subst hj
  rw [hcell j (by omega), hole_get12 (by omega)]
theorem Hole12.down {w0 wr : World} {g c : Nat} {xs : List Int} {n : Int} {j : Nat} (h : Hole12 w0 wr g c xs n (j + 1)) (hn : n < xs.getD j 0) : Hole12 w0 (wr.setCell ⟨g, j + 1, none⟩ (.int .i64 (xs.getD j 0))) g c xs n j := by
  obtain ⟨y, ho⟩ := h.own
  have hle := h.le
  obtain ⟨h1, h2⟩ := ho.set12 (j + 1) (xs.getD j 0)
  rw [hole_set12 hle, hole_down12 (by omega)] at h1
  have hB : w0.heap.size ≤ g := (World.ownsRow.lt ho g rfl).1
  refine ⟨by omega, ⟨_, h1⟩, fun a ha => ?_, h.bel.setCell (p := ⟨g, j + 1, none⟩) hB _⟩
  rw [List.drop_eq_getElem_cons (by omega)] at ha
  rcases List.mem_cons.1 ha with rfl | ha
  · rw [List.getD_eq_getElem?_getD, List.getElem?_eq_getElem (by omega)] at hn
    exact hn
  · exact h.up a ha
theorem Hole12.done {w0 wr : World} {g c : Nat} {xs : List Int} {n : Int} {k : Nat} (h : Hole12 w0 wr g c xs n k) (hu : upI11 xs) (hl : 0 < k → ¬ n < xs.getD (k - 1) 0) : OwnsI (wr.setCell ⟨g, k, none⟩ (.int .i64 n)) w0.heap.size (.slice (some ⟨g, 0, none⟩) (xs.length + 1) c) (insI11 xs n) ∧ Below w0.heap.size w0 (wr.setCell ⟨g, k, none⟩ (.int .i64 n)) := by
  obtain ⟨y, ho⟩ := h.own
  obtain ⟨h1, h2⟩ := ho.set12 k n
  rw [hole_set12 h.le, hole_end12 hu h.le h.up hl] at h1
  exact ⟨h1, h.bel.setCell (p := ⟨g, k, none⟩) (World.ownsRow.lt ho g rfl).1 _⟩

set_option maxRecDepth 100000 in
set_option maxHeartbeats 1000000 in
theorem rfiles12_any {w : World} {r : Nat} {T : Nat → Prop} {M : DM} (h : RefAt w r T M) (hI : M.Inv) :
    Calls Tryz.prog 76 #[.pointer (some ⟨r, 0, none⟩)] w fun e w' => (∃ p n c, e = .returned (.slice p n c) ∧ OwnsI w' w.heap.size (.slice p n c) (files12 M.listT)) ∧ Below w.heap.size w w' := by
  have kl := rlist_at h hI
  have hlen : M.listT.length ≤ 16777216 := by
    have := hI.count
    unfold DM.listT
    split
    · exact Nat.zero_le _
    · unfold DM.names nms
      rw [List.length_map]
      exact this
  have hsz : Hid (∀ x ∈ M.listT, x.size ≤ maxLen) := fun x hx => by
    unfold DM.listT at hx
    split at hx
    · cases hx
    · have := (good_size (hI.good x hx)).2
      unfold maxLen
      omega
  generalize M.listT = names at *
  clear h hI
  go_enter Tryz.func76, Tryz.ntmps76
  go_wp2_with fail
  refine kl.mono ?_
  rintro _ w1 ⟨⟨v, rfl, ho1⟩, hb1⟩
  obtain ⟨p, c, rfl⟩ : ∃ p c, v = .slice p names.length c := by
    obtain ⟨p, c, e, -⟩ := ho1
    exact ⟨p, c, e⟩
  clear kl
  have HO1 : Hid (HasT8 w1 (.slice p names.length c) names) := ho1
  have HB1 : Hid (Below w.heap.size w w1) := hb1
  clear ho1 hb1
  go_wp2
  go_loopw [3, 12] (fun s3 s12 wr => ∃ (j : Nat) (pf : Option Addr) (nf cf : Nat), s3 = .slice pf nf cf ∧ s12 = .int .i64 (j : Nat) ∧ j ≤ names.length ∧ Hid (OwnsI wr w1.heap.size (.slice pf nf cf) (files12 (names.take j))) ∧ Below w1.heap.size w1 wr) (fun _ s12 _ => names.length - (intOf s12).toNat)
  case atStart => exact ⟨0, none, 0, 0, rfl, rfl, Nat.zero_le _, OwnsI.none12 _ _, Below.refl _ _⟩
  case round =>
    obtain ⟨j, pf, nf, cf, rfl, rfl, hj, HO, hb⟩ := hrel
    have hzb := hb.size
    by_cases hjn : j < names.length
    · obtain ⟨-, hat⟩ := (HO1.out.below hb (Nat.le_refl _)).at12
      obtain ⟨g, o, hp, hg, hcn, hc⟩ := hat j hjn
      have hxs := hsz.out (names.getD j ByteArray.empty) (by rw [List.getD_eq_getElem?_getD, List.getElem?_eq_getElem hjn]; exact List.getElem_mem hjn)
      have HN : Hid (files12 (names.take (j + 1)) = if (num12 (names.getD j ByteArray.empty)).2 = true then insI11 (files12 (names.take j)) (num12 (names.getD j ByteArray.empty)).1 else files12 (names.take j)) := files_snoc12 hjn
      have kn := rindex12_any _ hxs wr
      have hll : (files12 (names.take j)).length ≤ j := Nat.le_trans (files12_len _) (by rw [List.length_take]; omega)
      have HU : Hid (upI11 (files12 (names.take j))) := files12_up _
      generalize names.getD j ByteArray.empty = x at *
      generalize num12 x = nx at *
      generalize files12 (names.take j) = xs at *
      obtain ⟨nv, nb⟩ := nx
      dsimp only at kn HN
      rw [hp] at *
      clear hat
      go_wp2_with fail
      refine kn.mono ?_
      rintro _ w2 ⟨rfl, hb2⟩
      have hO2 := HO.out.below hb2 (Nat.le_refl _)
      have hB2 := hb.trans (hb2.mono hzb)
      have hz2 := hB2.size
      clear kn hc hxs hb2 HO
      cases nb with
      | false =>
        rw [if_neg (by decide)] at HN
        have HO2 : Hid (OwnsI w2 w1.heap.size (.slice pf nf cf) (files12 (names.take (j + 1)))) := by rw [Hid, HN.out]; exact hO2
        clear HN
        go_wp2
        go_roundw
        case rel => exact ⟨j + 1, pf, nf, cf, rfl, by go_num, by omega, HO2, hB2⟩
        case measure => simp only [intOf]; omega
      | true =>
        rw [if_pos rfl] at HN
        have HB2 : Hid (Below w1.heap.size w1 w2) := hB2
        obtain ⟨pf', cf', e⟩ := hO2.shape12
        simp only [Value.slice.injEq] at e
        obtain ⟨rfl, rfl, rfl⟩ := e
        clear hB2 hb
        go_upto_region 8 with fail
        go_wp2_with (at_builtin; refine ap_int10 _ rfl _ _ rfl w1.heap.size _ xs _ rfl rfl (by exact hO2) (by omega) (by exact hz2) ?_; intro v3 w3 ho3 hb3; refine Halt8.out ?_)
        have hl3 : (xs ++ [nv]).length = xs.length + 1 := by rw [List.length_append]; rfl
        obtain ⟨g3, c3, e3, -⟩ := ho3.some12 (by omega)
        rw [hl3] at e3
        subst e3
        have H3 : Hole12 w1 w3 g3 c3 xs nv xs.length := ⟨Nat.le_refl _, ⟨nv, by rw [← hole_new12]; exact ho3⟩, (by rw [List.drop_length]; intro a ha; cases ha), HB2.out.trans hb3⟩
        have H3' : Hid (Hole12 w1 w3 g3 c3 xs nv xs.length) := H3
        clear ho3 hb3 hO2 H3 hl3
        constructor
        go_wp2
        go_loopw [8] (fun s8 wr => ∃ k : Nat, s8 = .int .i64 (k : Nat) ∧ Hid (Hole12 w1 wr g3 c3 xs nv k)) (fun s8 _ => (intOf s8).toNat)
        case atStart => exact ⟨_, rfl, H3'⟩
        case round =>
          obtain ⟨k, rfl, HK⟩ := hrel
          obtain ⟨q1, q2, q3, ⟨v4, q4⟩, q5⟩ := HK.out.cells
          have hkl := HK.out.le
          by_cases hk : 0 < k ∧ nv < xs.getD (k - 1) 0
          · obtain ⟨i, rfl⟩ : ∃ i, k = i + 1 := ⟨k - 1, by omega⟩
            have q6 := q5 i rfl
            rw [Nat.add_sub_cancel] at hk
            obtain ⟨-, hk⟩ := hk
            have HD := HK.out.down hk
            generalize xs.getD i 0 = z at *
            have HD' : Hid (Hole12 w1 (wr.setCell ⟨g3, i + 1, none⟩ (.int .i64 z)) g3 c3 xs nv i) := HD
            have f1 := q3 (i + 1)
            clear q3 q5 HD
            go_wp2
            go_roundw
            case rel => exact ⟨i, by go_num, HD'⟩
            case measure => simp only [intOf]; omega
          · have HE1 : Hid (OwnsI (wr.setCell ⟨g3, k, none⟩ (.int .i64 nv)) w1.heap.size (.slice (some ⟨g3, 0, none⟩) (xs.length + 1) c3) (files12 (names.take (j + 1)))) := by
              rw [Hid, HN.out]
              exact (HK.out.done HU.out (fun h0 hlt => hk ⟨h0, hlt⟩)).1
            have HE2 : Below w1.heap.size w1 (wr.setCell ⟨g3, k, none⟩ (.int .i64 nv)) := (HK.out.done HU.out (fun h0 hlt => hk ⟨h0, hlt⟩)).2
            have f1 := q3 k
            by_cases h0 : 0 < k
            · obtain ⟨i, rfl⟩ : ∃ i, k = i + 1 := ⟨k - 1, by omega⟩
              have q6 := q5 i rfl
              have hk' : ¬ nv < xs.getD i 0 := fun hlt => hk ⟨h0, by rw [Nat.add_sub_cancel]; exact hlt⟩
              generalize xs.getD i 0 = z at *
              clear q3 q5 hk
              go_wp2
              go_roundw
              case rel => exact ⟨j + 1, some ⟨g3, 0, none⟩, xs.length + 1, c3, rfl, by go_num, by omega, HE1, HE2⟩
              case measure => simp only [intOf]; omega
            · obtain rfl : k = 0 := by omega
              clear q3 q5 hk
              go_wp2
              go_roundw
              case rel => exact ⟨j + 1, some ⟨g3, 0, none⟩, xs.length + 1, c3, rfl, by go_num, by omega, HE1, HE2⟩
              case measure => simp only [intOf]; omega
    · obtain rfl : j = names.length := by omega
      rw [List.take_length] at HO
      have HE : Hid (Below w.heap.size w wr) := HB1.out.trans (hb.mono HB1.out.size)
      have HO2 : Hid (OwnsI wr w.heap.size (.slice pf nf cf) (files12 names)) := HO.out.mono HB1.out.size
      clear HO hb
      go_wp2
      go_ret
      exact ⟨⟨_, _, _, rfl, HO2.out⟩, HE.out⟩
end Go.Proofs.YthlelcmifolnfaaGreatDoor

namespace Go.Proofs.YthlelcmifolnfaaGreatDoor
open Go.RowKit Go.Shelf Go.Maps
attribute [local go_sem ↓] ldS_exec stS_exec ldS_execI stS_execI ldS_run ldS_box oc_int oc_bool oc_string oc_slice oc_pointer
theorem readB_len12 {M : DM} (hI : M.Inv) (x : ByteArray) : (M.readB x).length ≤ 1073741824 := by
  unfold DM.readB
  split
  · exact Nat.zero_le _
  · split
    · exact Nat.zero_le _
    · exact Nat.le_of_lt (hI.size x)
theorem readB_isB12 {M : DM} (hI : M.Inv) (x : ByteArray) : IsB (M.readB x) := fun z hz => by
  unfold DM.readB at hz
  split at hz
  · cases hz
  · split at hz
    · cases hz
    · have := hI.isB x z hz
      omega
theorem rev_getD12 {fs : List Int} {i : Nat} (hi : i < fs.length) : fs.reverse.getD (fs.length - 1 - i) 0 = fs.getD i 0 := by
  rw [List.getD_eq_getElem?_getD, List.getD_eq_getElem?_getD, List.getElem?_reverse (by omega), show fs.length - 1 - (fs.length - 1 - i) = i by omega]
def LdE (w : World) (M : DM) (e : Ending) (w' : World) : Prop := ∃ Y : SnapV, e = .returned (.tuple #[.agg Y.arr, .bool (lod12 M).2.1, .int .i64 (lod12 M).2.2]) ∧ Y.s = (lod12 M).1 ∧ FitsS w' Y ∧ Below w.heap.size w w'

set_option maxRecDepth 100000 in
set_option maxHeartbeats 1000000 in
theorem rload12_any {w : World} {r : Nat} {T : Nat → Prop} {M : DM} (h : RefAt w r T M) (hO : M.Ok) :
    Calls Tryz.prog 36 #[.pointer (some ⟨r, 0, none⟩)] w (LdE w M) := by
  have hI := hO.inv
  obtain ⟨w1, hw1⟩ : ∃ w1, w.alloc (.cells #[.int .i64 0, .int .i64 0, .slice none 0 0, .slice none 0 0, .slice none 0 0] 27) = w1 := ⟨_, rfl⟩
  have hb1 : Below w.heap.size w w1 := by rw [← hw1]; exact (Below.refl _ w).alloc (Nat.le_refl _) _
  have hz1 : w1.heap.size = w.heap.size + 1 := by rw [← hw1]; simp
  have r1 : w1.heap[w.heap.size]? = some (.cells zeroS 27 (0, 0)) := by rw [← hw1]; exact heap_alloc_new w _
  have h1 : RefAt w1 r T M := by
    obtain ⟨vl, vb, tl, tb, n, a1, a2⟩ := h
    exact ⟨vl, vb, tl, tb, n, a1.below hb1, a2⟩
  obtain ⟨c3, hlt⟩ := h1.cell3
  -- how a call ends that tells nothing
  have none_end : ∀ (V : World), Below w1.heap.size w1 V → (stS (.pointer (some ⟨w.heap.size, 0, none⟩)) (.agg #[.int .i64 0, .int .i64 0, .slice none 0 0, .slice none 0 0, .slice none 0 0])).run Tryz.prog V = .ok () (V.setCells w.heap.size 0 noSV.arr.toList) ∧ w.heap.size < V.heap.size ∧ (V.setCells w.heap.size 0 noSV.arr.toList).heap[w.heap.size]? = some (.cells noSV.arr 27 (0, 0)) ∧ FitsS (V.setCells w.heap.size 0 noSV.arr.toList) noSV ∧ Below w.heap.size w (V.setCells w.heap.size 0 noSV.arr.toList) := fun V hb => by
    have rV := box_below r1 hb
    exact ⟨stS_arr noSV (there_box rV 0 5 (Nat.le_refl _)), box_lt rV, setS_box noSV rV rfl, (OwnsS.nil _ 0).fits, setCells_below (Nat.le_refl _) _ _ (hb1.trans (hb.mono (by omega)))⟩
  have HNE : Hid _ := none_end
  cases hoff : M.off with
  | true =>
    have HE : Hid (lod12 M = (noS10, false, 9)) := if_pos hoff
    rw [hoff] at c3
    obtain ⟨e1, e2, e3, e4, e5⟩ := HNE.out w1 (Below.refl _ _)
    have E3 : Hid _ := e3
    have E45 : Hid _ := And.intro e4 e5
    clear h h1 hO hI none_end hb1 r1 e3 e4 e5
    go_enter Tryz.func36, Tryz.ntmps36
    go_wp2
    refine bodyPost_ret (ret_ctt12 rfl _ _ w.heap.size _ _ _ _ rfl E3.out Tryz.underlying27 rfl (by kernel_rfl)) rfl ⟨noSV, ?_, ?_, E45.out.1, E45.out.2⟩
    · rw [HE.out]; rfl
    · rw [HE.out]; rfl
  | false =>
    have HE : Hid (lod12 M = match load12 M with | some s => (s, true, 0) | none => (noS10, false, 0)) := if_neg (by rw [hoff]; decide)
    rw [hoff] at c3
    have HLd : Hid (load12 M = find12 M (files12 M.listT).reverse) := rfl
    have kf := rfiles12_any h1 hI
    have hfl : (files12 M.listT).length ≤ 16777216 := by
      have h2 := files12_len M.listT
      have h3 : M.listT.length ≤ 16777216 := by
        have := hI.count
        unfold DM.listT
        split
        · exact Nat.zero_le _
        · unfold DM.names nms
          rw [List.length_map]
          exact this
      omega
    have KRd : Hid (∀ V, Below w1.heap.size w1 V → ∀ x : ByteArray, Calls Tryz.prog 98 #[.pointer (some ⟨r, 0, none⟩), .string x] V fun e w' => (∃ v, e = .returned (.tuple #[v, .int .i64 (M.readE x : Nat)]) ∧ Owns w' V.heap.size 5 v (M.readB x)) ∧ Below V.heap.size V w') := fun V hb x => by
      obtain ⟨vl, vb, tl, tb, n, a1, a2⟩ := h1
      exact rread_any (S := T) ⟨vl, vb, tl, tb, n, a1.below hb, a2⟩ hO x
    have HLim : Hid (∀ x, (M.readB x).length ≤ 1073741824) := readB_len12 hI
    have HBB : Hid (∀ x, IsB (M.readB x)) := readB_isB12 hI
    have HR1 : Hid (w1.heap[w.heap.size]? = some (.cells zeroS 27 (0, 0))) := r1
    generalize files12 M.listT = fs at *
    clear h h1 hO hI none_end r1
    go_enter Tryz.func36, Tryz.ntmps36
    go_wp2_with fail
    refine kf.mono ?_
    rintro _ w4 ⟨⟨p, m, q, rfl, ho4⟩, hb4⟩
    obtain ⟨hm, hmq, hat⟩ := ho4.at12
    subst hm
    have HB4 : Hid (Below w1.heap.size w1 w4) := hb4
    have HAt : Hid (∀ j, j < fs.length → ∃ g, p = some ⟨g, 0, none⟩ ∧ w1.heap.size ≤ g ∧ g < w4.heap.size ∧ w4.cell? ⟨g, j, none⟩ = some (.int .i64 (fs.getD j 0))) := hat
    clear kf ho4 hat hb4 c3
    go_wp2
    go_loopw [6] (fun s6 wr => ∃ (j : Nat) (z : Int), s6 = .int .i64 z ∧ Hid (z = (fs.length : Int) - 1 - (j : Int)) ∧ j ≤ fs.length ∧ Hid (find12 M (fs.reverse.take j) = none) ∧ Hid (Below w4.heap.size w4 wr)) (fun s6 _ => (intOf s6 + 1).toNat)
    case atStart => exact ⟨0, _, rfl, by simp [Hid], Nat.zero_le _, rfl, Below.refl _ _⟩
    case round =>
      obtain ⟨j, z, rfl, HQ, hj, HZ, HBr⟩ := hrel
      have HB1r : Hid (Below w1.heap.size w1 wr) := HB4.out.trans (HBr.out.mono HB4.out.size)
      by_cases hjn : j < fs.length
      · obtain ⟨i, hi⟩ : ∃ i : Nat, fs.length - 1 - j = i := ⟨_, rfl⟩
        obtain rfl : z = (i : Int) := by have := HQ.out; omega
        have hin : i < fs.length := by omega
        obtain ⟨g, hp, hg1, hg2, hcl⟩ := HAt.out i hin
        have hcr : wr.cell? ⟨g, i, none⟩ = some (.int .i64 (fs.getD i 0)) := (HBr.out.cell (p := ⟨g, i, none⟩) hg2).trans hcl
        have hgr : g < wr.heap.size := Nat.lt_of_lt_of_le hg2 HBr.out.size
        have hsj : fs.reverse.getD j 0 = fs.getD i 0 := by
          have := rev_getD12 hin
          rw [show fs.length - 1 - i = j by omega] at this
          exact this
        have hjr : j < fs.reverse.length := by rw [List.length_reverse]; exact hjn
        have e : fs.reverse = fs.reverse.take j ++ fs.getD i 0 :: fs.reverse.drop (j + 1) := by
          conv => lhs; rw [← List.take_append_drop j fs.reverse]
          rw [List.drop_eq_getElem_cons hjr, ← hsj, List.getD_eq_getElem?_getD, List.getElem?_eq_getElem hjr]
          rfl
        have HF1 : Hid ((join12 (M.readB (nameB12 (fs.getD i 0)))).2 = 0 ∧ (join12 (M.readB (nameB12 (fs.getD i 0)))).1.i = fs.getD i 0 → load12 M = some (join12 (M.readB (nameB12 (fs.getD i 0)))).1) := fun hc => by
          rw [HLd.out]
          conv => lhs; rw [e]
          rw [find12_app M _ _ HZ.out, find12_cons, if_pos hc]
        have HF2 : Hid (¬ ((join12 (M.readB (nameB12 (fs.getD i 0)))).2 = 0 ∧ (join12 (M.readB (nameB12 (fs.getD i 0)))).1.i = fs.getD i 0) → find12 M (fs.reverse.take (j + 1)) = none) := fun hc => by
          have e2 : fs.reverse.take (j + 1) = fs.reverse.take j ++ [fs.getD i 0] := by
            rw [List.take_add_one, List.getElem?_eq_getElem hjr, ← hsj, List.getD_eq_getElem?_getD, List.getElem?_eq_getElem hjr]
            rfl
          rw [e2, find12_app M _ _ HZ.out, find12_cons, if_neg hc]
          rfl
        have kn := rname12_any (fs.getD i 0) wr
        have KR2 : Hid (∀ V, Below wr.heap.size wr V → Calls Tryz.prog 98 #[.pointer (some ⟨r, 0, none⟩), .string (nameB12 (fs.getD i 0))] V fun e w' => (∃ v, e = .returned (.tuple #[v, .int .i64 (M.readE (nameB12 (fs.getD i 0)) : Nat)]) ∧ Owns w' V.heap.size 5 v (M.readB (nameB12 (fs.getD i 0)))) ∧ Below V.heap.size V w') := fun V hb => KRd.out V (HB1r.out.trans (hb.mono HB1r.out.size)) _
        have hlim := HLim.out (nameB12 (fs.getD i 0))
        have hbb := HBB.out (nameB12 (fs.getD i 0))
        have KJ : Hid (∀ V (sl : Sl10), Has V (.slice sl.p sl.n sl.c) (M.readB (nameB12 (fs.getD i 0))) → Calls Tryz.prog 11 #[.slice sl.p sl.n sl.c] V fun e w' => ∃ Y : SnapV, e = .returned (.tuple #[.agg Y.arr, .int .i64 (join12 (M.readB (nameB12 (fs.getD i 0)))).2]) ∧ Y.s = (join12 (M.readB (nameB12 (fs.getD i 0)))).1 ∧ LiesS w' V.heap.size Y ∧ Below V.heap.size V w') := fun V sl hv => rjoin12_any sl _ V hv hbb hlim
        rw [hp] at *
        clear hcl e hlim hbb hsj hjr
        generalize M.readE (nameB12 (fs.getD i 0)) = rre at *
        generalize join12 (M.readB (nameB12 (fs.getD i 0))) = JJ at *
        obtain ⟨js, je⟩ := JJ
        dsimp only at HF1 HF2 KJ
        generalize M.readB (nameB12 (fs.getD i 0)) = rb at *
        generalize nameB12 (fs.getD i 0) = nm at *
        generalize fs.getD i 0 = a at *
        go_wp2_with fail
        refine kn.mono ?_
        rintro _ y1 ⟨rfl, hy1⟩
        have krd := KR2.out y1 hy1
        clear kn KR2
        go_wp2_with fail
        refine krd.mono ?_
        rintro _ y2 ⟨⟨v2, rfl, ho2⟩, hy2⟩
        obtain ⟨sl, rfl, -⟩ := ho2.slice12
        have hy02 := hy1.trans (hy2.mono hy1.size)
        have kj := KJ.out y2 sl ho2.has
        clear krd KJ ho2 hy1 hy2
        go_wp2_with fail
        refine kj.mono ?_
        rintro _ y3 ⟨Y, rfl, hYs, hYo, hy3⟩
        obtain ⟨w6, hw6, hb6, hy6, hF6⟩ := lay12 y3 Y hYo.fits
        have hst := stS_arr Y (there_box (heap_alloc_new y3 (.cells #[.int .i64 0, .int .i64 0, .slice none 0 0, .slice none 0 0, .slice none 0 0] 27)) 0 5 (Nat.le_refl _))
        rw [hw6] at hst
        have hy03 := hy02.trans (hy3.mono hy02.size)
        have hy06 : Below wr.heap.size wr w6 := hy03.trans (hb6.mono hy03.size)
        have HB6 : Hid (Below wr.heap.size wr w6) := hy06
        have HB16 : Hid (Below w1.heap.size w1 w6) := HB1r.out.trans (hy06.mono HB1r.out.size)
        have HB46 : Hid (Below w4.heap.size w4 w6) := HBr.out.trans (hy06.mono HBr.out.size)
        have HY6 : Hid (SnapAt w6 y3.heap.size Y) := hy6
        have HF6 : Hid (LiesS w6 y2.heap.size Y) := hYo.below hb6
        have HY2 : Hid (w.heap.size < y2.heap.size) := by
          have h1 := HB1r.out.size
          have h2 := hy02.size
          rw [Hid]; omega
        have HYs : Hid (Y.s = js) := hYs
        have HYi : Hid (js.i = Y.i) := by rw [Hid, ← HYs.out]; rfl
        rw [HYi.out] at HF1 HF2
        have q1 : ∀ m, (w6.drewN m).cell? ⟨y3.heap.size, 0, none⟩ = some (.int .i64 Y.i) := fun m => box_cell (box_below HY6.out (below_drewN8 (Below.refl w6.heap.size w6) m)) 0
        have q2 : ∀ m, (w6.drewN m).cell? ⟨g, i, none⟩ = some (.int .i64 a) := fun m => ((HB6.out.trans (below_drewN8 (Below.refl wr.heap.size w6) m)).cell (p := ⟨g, i, none⟩) hgr).trans hcr
        have q3 : y3.heap.size < w6.heap.size := box_lt hy6
        have q4 : g < w6.heap.size := Nat.lt_of_lt_of_le hgr hy06.size
        clear kj hYo hYs hy02 hy3 hy03 hb6 hy6 hF6 hcr hgr hy06
        by_cases hc : je = 0 ∧ Y.i = a
        · obtain ⟨rfl, hya⟩ := hc
          have hL := HF1.out ⟨rfl, hya⟩
          rw [hL] at HE
          dsimp only at HE
          have hya' : (Y.i == a) = true := by simpa using hya
          clear hL HF1 HF2 hya
          go_wp2
          go_quiet (fail)
          have hb7 := below_drewN8 (Below.refl w6.heap.size w6) nq
          generalize w6.drewN nq = w7 at *
          have HB17 : Hid (Below w1.heap.size w1 w7) := HB16.out.trans (hb7.mono HB16.out.size)
          have y7 := box_below HY6.out hb7
          have hld := ldS_box w7 _ _ _ _ y7 rfl
          have r7 := box_below HR1.out HB17.out
          have hstR := stS_arr Y (there_box r7 0 5 (Nat.le_refl _))
          have lr7 := box_lt r7
          have ly7 := box_lt y7
          have HE2 : Hid (LdE w M (.returned (.tuple #[.agg Y.arr, .bool true, .int .i64 0])) (w7.setCells w.heap.size 0 Y.arr.toList)) := by
            refine ⟨Y, by rw [HE.out], by rw [HE.out]; exact HYs.out, ?_, setCells_below (Nat.le_refl _) _ _ (hb1.trans (HB17.out.mono (by omega)))⟩
            exact ((HF6.out.below hb7).kept (setCells_grown w.heap.size Y.arr.toList 0 w7) HY2.out).fits
          have R8 : Hid ((w7.setCells w.heap.size 0 Y.arr.toList).heap[w.heap.size]? = some (.cells Y.arr 27 (0, 0))) := setS_box Y r7 rfl
          clear hb7 y7 r7
          go_wp2
          refine bodyPost_ret (ret_ctt12 rfl _ _ w.heap.size _ _ _ _ rfl R8.out Tryz.underlying27 rfl (by kernel_rfl)) rfl ?_
          exact HE2.out
        · have HZ2 : Hid (find12 M (fs.reverse.take (j + 1)) = none) := HF2.out hc
          by_cases hje : je = 0
          · subst hje
            have hya' : (Y.i == a) = false := by
              rw [beq_eq_false_iff_ne]
              exact fun h => hc ⟨rfl, h⟩
            clear HF1 HF2 hc
            go_wp2
            go_quiet (fail)
            go_wp2
            go_roundw
            case rel => exact ⟨j + 1, _, rfl, by rw [Hid]; omega, by omega, HZ2, below_drewN8 HB46.out _⟩
            case measure => simp only [intOf]; omega
          · have hje' : (je == 0) = false := by rw [beq_eq_false_iff_ne]; exact hje
            clear HF1 HF2 hc hje
            go_wp2
            go_quiet (fail)
            go_wp2
            go_roundw
            case rel => exact ⟨j + 1, _, rfl, by rw [Hid]; omega, by omega, HZ2, below_drewN8 HB46.out _⟩
            case measure => simp only [intOf]; omega
      · obtain rfl : j = fs.length := by omega
        have hneg : ¬ (0 : Int) ≤ z := by have := HQ.out; omega
        have HN : Hid (load12 M = none) := by
          have := HZ.out
          rw [show fs.reverse.take fs.length = fs.reverse from List.take_of_length_le (by rw [List.length_reverse]; exact Nat.le_refl _)] at this
          rw [Hid, HLd.out]; exact this
        rw [HN.out] at HE
        obtain ⟨e1, e2, e3, e4, e5⟩ := HNE.out wr HB1r.out
        have E3 : Hid _ := e3
        have E45 : Hid _ := And.intro e4 e5
        clear e3 e4 e5 HAt HLim HBB KRd HZ HBr
        go_wp2
        refine bodyPost_ret (ret_ctt12 rfl _ _ w.heap.size _ _ _ _ rfl E3.out Tryz.underlying27 rfl (by kernel_rfl)) rfl ⟨noSV, ?_, ?_, E45.out.1, E45.out.2⟩
        · rw [HE.out]; rfl
        · rw [HE.out]; rfl
theorem RefS.rebase {wb w w' : World} {r : Nat} {S : Nat → Prop} {M : DM} (h : RefS wb w r S M) (hb : Below w.heap.size w w') : ∃ S', RefS w' w' r S' M ∧ (∀ k, S' k → k < w.heap.size) ∧ ∀ V N, RefS w' V r S' N → RefS wb V r S N := by
  obtain ⟨S0, h1, h2, h3⟩ := h.ex
  have h5 : RefAt w r (fun k => S0 k ∧ k < w.heap.size) M := h1.mono fun k hk hs => ⟨hs, hk⟩
  refine ⟨fun k => S0 k ∧ k < w.heap.size, RefS.of (h5.below hb), fun k hk => hk.2, fun V N k => ?_⟩
  obtain ⟨S2, k1, k2, k3⟩ := k.ex
  have hz := h2.size
  have hz2 := hb.size
  have h4 : Turn S wb w' := h2.trans (Turn.of_below hb (Nat.le_refl _))
  exact ⟨S2, k1, h4.wide k2 fun i hi => h3 i hi.1, fun i hi => (k3 i hi).elim (fun q => h3 i q.1) fun q => .inr (by omega)⟩
theorem RefS.cellT {wb w : World} {r : Nat} {S : Nat → Prop} {M : DM} (h : RefS wb w r S M) {p : Addr} (hp : p.block < wb.heap.size) (hn : ¬ S p.block) : w.cell? p = wb.cell? p := h.turn.cell hp hn
theorem RefS.size {wb w : World} {r : Nat} {S : Nat → Prop} {M : DM} (h : RefS wb w r S M) : wb.heap.size ≤ w.heap.size := h.turn.size
theorem hasX_row12 {w : World} {B : Nat} {S : Nat → Prop} {y : Sl10 × List Int} (h : Has w (slV y) y.2) (hn : ∀ k, inSl y.1 k → B ≤ k) (hS : ∀ k, S k → k < B) : HasX w S (slV y) y.2 := by
  obtain ⟨p, c, e, h1, h2, h3⟩ := h
  refine ⟨p, c, e, h1, h2, fun h0 => ?_⟩
  obtain ⟨b, o, rfl, hb, hc⟩ := h3 h0
  have e' := e
  unfold slV at e'
  simp only [Value.slice.injEq] at e'
  exact ⟨b, o, rfl, (fun hk => by have := hS b hk; have := hn b ⟨by omega, ⟨b, o, none⟩, e'.1, rfl⟩; omega), hb, hc⟩
theorem save_go12 {M : DM} {s : Snap10} (ho : M.off = false) (hg : goodS10 s = true) (hi : s.i ≤ 999999999) : save12 M s = sav5 M s := by
  unfold save12
  rw [if_neg (by rw [ho]; decide), if_pos ⟨hg, hi⟩]
theorem save_bad12 {M : DM} {s : Snap10} (ho : M.off = false) (h : ¬ (goodS10 s = true ∧ s.i ≤ 999999999)) : save12 M s = (2, M) := by
  unfold save12
  rw [if_neg (by rw [ho]; decide), if_neg h]
theorem sav_end12 {M : DM} {s : Snap10} (j n : Nat) (hj : 1 ≤ j) (hn : j + n = 5) (h : (st12 M s j).1 ≠ 0) : sav5 M s = st12 M s j := by
  have := st12_end M s n j hj h
  rw [hn] at this
  exact this
theorem app_at12 {x : ByteArray} {M : DM} {l : List (List Int)} {j : Nat} {b : List Int} (hj : l[j]? = some b) (h0 : (app12 x M (l.take j)).1 = 0) : (app12 x M (l.take (j + 1)) = (app12 x M (l.take j)).2.append x b) ∧ (((app12 x M (l.take j)).2.append x b).1 ≠ 0 → app12 x M l = (app12 x M (l.take j)).2.append x b) := by
  obtain ⟨hlt, hb⟩ := List.getElem?_eq_some_iff.1 hj
  refine ⟨?_, fun hne => ?_⟩
  · rw [List.take_add_one, hj, app_app, if_pos h0]
    exact app_one _ _ _
  · conv => lhs; rw [← List.take_append_drop j l]
    rw [app_app, if_pos h0, List.drop_eq_getElem_cons hlt, hb]
    show (if ((app12 x M (l.take j)).2.append x b).1 = 0 then _ else (app12 x M (l.take j)).2.append x b) = _
    rw [if_neg hne]
theorem drop_at12 {n : Int} {M : DM} {l : List Int} {j : Nat} (hj : j < l.length) (h0 : (drop12 n M (l.take j)).1 = 0) : drop12 n M (l.take (j + 1)) = drop12 n (drop12 n M (l.take j)).2 [l.getD j 0] ∧ ((drop12 n (drop12 n M (l.take j)).2 [l.getD j 0]).1 = 9 → drop12 n M l = drop12 n (drop12 n M (l.take j)).2 [l.getD j 0]) := by
  have h9 : ¬ (drop12 n M (l.take j)).1 = 9 := by rw [h0]; decide
  have hb : l.getD j 0 = l[j] := by rw [List.getD_eq_getElem?_getD, List.getElem?_eq_getElem hj]; rfl
  refine ⟨?_, fun hne => ?_⟩
  · rw [List.take_add_one, List.getElem?_eq_getElem hj, drop12_app, if_neg h9, hb]
    rfl
  · conv => lhs; rw [← List.take_append_drop j l]
    rw [drop12_app, if_neg h9, List.drop_eq_getElem_cons hj, ← hb, show (l.getD j 0 :: l.drop (j + 1)) = [l.getD j 0] ++ l.drop (j + 1) from rfl, drop12_app, if_pos hne]
end Go.Proofs.YthlelcmifolnfaaGreatDoor
