import Derived.Test.YtojfihfdnchkeaaGreatDoorKd6To
import Derived.Test.YtojfihfdnchkeaaGreatDoorDs0To
import Derived.Lib.SlBytesConst
import Derived.Test.YtojfihfdnchkeaaGreatDoorKc1To
import Derived.Test.YtojfihfdnchkeaaGreatDoorDs1To
import Derived.Test.YtojfihfdnchkeaaGreatDoorTell0To
import Derived.Test.YtojfihfdnchkeaaGreatDoorLxTo
import Derived.Test.YtojfihfdnchkeaaGreatDoorKd0To
namespace Go.Proofs.YtojfihfdnchkeaaGreatDoor
open Go.RowKit Go.Shelf Go.Maps
attribute [local go_sem ↓] ldE_exec stE_exec ldE_execI stE_execI ldC_exec stC_exec ldC_execI stC_execI ldS_exec stS_exec ldS_execI stS_execI ldS_run ldS_box ldW_exec stW_exec ldW_execI stW_execI ldR_exec stR_exec ldR_execI stR_execI ldT_exec stT_exec ldT_execI stT_execI ldU_exec stU_exec ldU_execI stU_execI ldH_exec stH_exec ldH_execI stH_execI oc_int oc_bool oc_string oc_slice oc_pointer
def plainS (i : Int) : Snap10 := ⟨i, 1, ⟨[1], []⟩, [97, 98, 99]⟩
def plainV (i : Int) (g : Nat) : SnapV := ⟨i, 1, ⟨⟨some ⟨g, 0, none⟩, 1, 1⟩, nilS10, ⟨[1], []⟩⟩, ⟨some ⟨g + 1, 0, none⟩, 3, 3⟩, [97, 98, 99]⟩
set_option maxRecDepth 100000 in
set_option maxHeartbeats 1000000 in
theorem plain_any (i : Int) (hi : inI i) (w : World) : Calls Tryz.prog 70 #[.int .i64 i] w fun e w' => e = .returned (.agg (plainV i (w.heap.size + 1)).arr) ∧ FitsS w' (plainV i (w.heap.size + 1)) ∧ Below w.heap.size w w' := by
  generalize hs : w.heap.size = s at *
  have kc := Lib.run_convert_bytes_const (P := Tryz.prog) ((w.alloc (.cells #[.int .i64 0, .int .i64 0, .slice none 0 0, .slice none 0 0, .slice none 0 0] 47)).alloc (.cells #[.int .i64 1] 3)) 38 5 #[.int .u8 97, .int .u8 98, .int .u8 99] 3 3 Tryz.underlying38 Tryz.underlying5
  obtain ⟨w3, hw3⟩ : ∃ w3, ((w.alloc (.cells #[.int .i64 0, .int .i64 0, .slice none 0 0, .slice none 0 0, .slice none 0 0] 47)).alloc (.cells #[.int .i64 1] 3)).alloc (.cells #[.int .u8 97, .int .u8 98, .int .u8 99] 5 (3, 4)) = w3 := ⟨_, rfl⟩
  have hb3 : Below s w w3 := by rw [← hw3]; exact (((Below.refl _ w).alloc (by omega) _).alloc (by simp; omega) _).alloc (by simp; omega) _
  have hz3 : w3.heap.size = s + 3 := by rw [← hw3]; simp; omega
  have r3 : w3.heap[s]? = some (.cells zeroS 47 (0, 0)) := by
    rw [← hw3, ← hs]
    exact box_below (box_below (heap_alloc_new w _) ((Below.refl _ _).alloc (Nat.le_refl _) _)) ((Below.refl _ _).alloc (Nat.le_refl _) _)
  have i3 : w3.heap[s + 1]? = some (.cells #[.int .i64 1] 3 (0, 0)) := by
    have := heap_alloc_new (w.alloc (.cells #[.int .i64 0, .int .i64 0, .slice none 0 0, .slice none 0 0, .slice none 0 0] 47)) (.cells #[.int .i64 1] 3)
    rw [World.size_alloc, hs] at this
    rw [← hw3]
    exact box_below this ((Below.refl _ _).alloc (Nat.le_refl _) _)
  have b3 : w3.heap[s + 2]? = some (.cells #[.int .u8 97, .int .u8 98, .int .u8 99] 5 (3, 4)) := by
    have := heap_alloc_new ((w.alloc (.cells #[.int .i64 0, .int .i64 0, .slice none 0 0, .slice none 0 0, .slice none 0 0] 47)).alloc (.cells #[.int .i64 1] 3)) (.cells #[.int .u8 97, .int .u8 98, .int .u8 99] 5 (3, 4))
    rw [World.size_alloc, World.size_alloc, hs] at this
    rw [← hw3]; exact this
  rw [World.size_alloc, World.size_alloc, hs] at kc
  have kc2 : (convert 38 38 (.slice (some ⟨s + 1 + 1, 0, none⟩) 3 3)).run Tryz.prog (((w.alloc (.cells #[.int .i64 0, .int .i64 0, .slice none 0 0, .slice none 0 0, .slice none 0 0] 47)).alloc (.cells #[.int .i64 1] 3)).alloc (.cells #[.int .u8 97, .int .u8 98, .int .u8 99] 5)) = .ok (.slice (some ⟨s + 1 + 1, 0, none⟩) 3 3) w3 := by rw [← hw3]; exact kc
  clear kc hw3
  have hth := there_box r3 0 5 (Nat.le_refl _)
  have hst := stS_arr (plainV i (s + 1)) hth
  have R4 : Hid ((w3.setCells s 0 (plainV i (s + 1)).arr.toList).heap[s]? = some (.cells (plainV i (s + 1)).arr 47 (0, 0))) := setS_box _ r3 rfl
  have hgr := setCells_grown s (plainV i (s + 1)).arr.toList 0 w3
  have i4 := (hgr.block (s + 1) (by omega) (by simp)).trans i3
  have b4 := (hgr.block (s + 2) (by omega) (by simp)).trans b3
  have HB4 : Hid (Below s w (w3.setCells s 0 (plainV i (s + 1)).arr.toList)) := setCells_below (Nat.le_refl _) _ _ hb3
  have HF4 : Hid (FitsS (w3.setCells s 0 (plainV i (s + 1)).arr.toList) (plainV i (s + 1))) := by
    refine ⟨hi, (show inI 1 from ⟨by decide, by decide⟩), ⟨?_, HasI.nil _, ?_, (fun _ h => by cases h), (show 1 ≤ 17592186044416 by decide), (show 0 ≤ 17592186044416 by decide)⟩, ?_, ?_, (show 3 ≤ 140737488351232 by decide)⟩
    · refine ⟨_, _, rfl, Nat.le_refl _, (fun h => by cases h), fun _ => ⟨s + 1, 0, rfl, box_lt i4, fun j hj => ?_⟩⟩
      have hj0 : j = 0 := by have : j < 1 := hj; omega
      subst hj0
      exact box_cell i4 0
    · intro z hz
      have : z = 1 := by simpa [plainV] using hz
      subst this
      exact ⟨by decide, by decide⟩
    · refine ⟨_, _, rfl, Nat.le_refl _, (fun h => by cases h), fun _ => ⟨s + 2, 0, rfl, box_lt b4, fun j hj => ?_⟩⟩
      have hj3 : j = 0 ∨ j = 1 ∨ j = 2 := by have : j < 3 := hj; omega
      rcases hj3 with rfl | rfl | rfl
      · exact box_cell b4 0
      · exact box_cell b4 1
      · exact box_cell b4 2
    · intro z hz
      have : z = 97 ∨ z = 98 ∨ z = 99 := by simpa [plainV] using hz
      omega
  have lr := box_lt r3
  clear hb3 i3 b3 i4 b4 hgr r3
  unfold plainV SnapV.arr nilS10 at hst
  dsimp only at hst
  go_enter Tryz.func70, Tryz.ntmps70
  go_wp2
  refine bodyPost_ret (ret_one rfl _ _ s _ _ _ _ rfl R4.out Tryz.underlying47 rfl (by kernel_rfl)) rfl ⟨rfl, HF4.out, HB4.out⟩
theorem okN_save12 {M : DM} {c : Nat} (h : M.OkN c) {s : Snap10} (hB : IsB s.d) : (save12 M s).2.OkN (c + 16777700) := by
  unfold save12
  split
  · exact h.mono (by omega)
  · split
    · rename_i hg
      have hfw := good_few hg.1
      have hf : FewF s.f := ⟨by omega, by omega⟩
      have o4 := st12_ok h hB hf hfw.2.2 4 (Nat.le_refl _)
      have o4' : (sav4 M s).2.OkN (c + 400) := o4
      unfold sav5
      split
      · have hl : (files12 (sav4 M s).2.listT).reverse.length ≤ 16777216 := by
          rw [List.length_reverse]
          refine Nat.le_trans (files12_len _) ?_
          unfold DM.listT
          split
          · exact Nat.zero_le _
          · show (nms (sav4 M s).2.L).length ≤ _
            unfold nms
            rw [List.length_map]
            exact o4'.inv.count
        exact (okN_drop12 _ _ o4').mono (by omega)
      · exact o4'.mono (by omega)
    · exact h.mono (by omega)
theorem HasT8.of_row12 {w w' : World} {B : Nat} {v : Value} {xs : List ByteArray} (h : w.ownsRow B 9 1 v xs.length (textsV8 xs)) (hb : Below w.heap.size w w') : HasT8 w' v xs := by
  rcases h.2 with ⟨rfl, hn⟩ | ⟨g, cap, cur, rfl, hB, hg, hnc, _, _, _⟩
  · exact ⟨none, 0, by rw [hn], by omega, fun _ => rfl, fun h0 => by omega⟩
  · refine ⟨some ⟨g, 0, none⟩, cap, rfl, hnc, (fun h0 => by cases h0), fun _ => ⟨g, 0, rfl, Nat.lt_of_lt_of_le (box_lt hg) hb.size, fun i hi => ?_⟩⟩
    have hc := World.ownsRow.cells h (g := g) rfl i (.string (xs.getD i ByteArray.empty)) (by simp [textsV8, hi, List.getD_eq_getElem?_getD])
    rw [Addr.add_lit] at hc
    exact (hb.cell (p := ⟨g, 0 + i, none⟩) (box_lt hg)).trans hc
def lS1 : DM := (save12 (DM.empty 5000) (plainS 5)).2
def lS2 : DM := (save12 lS1 (plainS 9)).2
set_option maxRecDepth 100000 in
theorem lS_errs : (save12 (DM.empty 5000) (plainS 5)).1 = 0 ∧ (save12 lS1 (plainS 9)).1 = 0 := by decide +kernel
set_option maxRecDepth 100000 in
theorem lS_load : (lod12 lS2).1.i = 9 ∧ (lod12 lS2).2.1 = true ∧ (lod12 lS2).2.2 = 0 := by decide +kernel
set_option maxRecDepth 100000 in
theorem lS_list : lS2.listT = [⟨#[115, 110, 97, 112, 45, 57]⟩] := by decide +kernel
theorem plain_isB (i : Int) : IsB (plainS i).d := by
  intro z hz
  have : z = 97 ∨ z = 98 ∨ z = 99 := by simpa [plainS] using hz
  omega
theorem lS_ok1 : lS1.OkN 16777700 := by
  have := okN_save12 (okN_empty 5000 (by decide)) (plain_isB 5)
  rw [Nat.zero_add] at this
  exact this
theorem lS_ok2 : lS2.OkN (16777700 + 16777700) := okN_save12 lS_ok1 (plain_isB 9)
theorem plain_in (i : Int) (g : Nat) {k : Nat} (h : inSn (plainV i g) k) : g ≤ k := by
  rcases h with h | h | h
  · obtain ⟨-, a, ha, rfl⟩ := h
    have : a = ⟨g, 0, none⟩ := by simpa [plainV] using ha.symm
    rw [this]
    exact Nat.le_refl _
  · exact absurd h.1 (Nat.lt_irrefl 0)
  · obtain ⟨-, a, ha, rfl⟩ := h
    have : a = ⟨g + 1, 0, none⟩ := by simpa [plainV] using ha.symm
    rw [this]
    exact Nat.le_succ _

set_option maxRecDepth 100000 in
set_option maxHeartbeats 1000000 in
theorem livesS_any (W : World) (h0 : Gl11 W) : Calls Tryz.prog 17 #[] W fun e w' => e = .returned (.bool true) ∧ Below W.heap.size W w' := by
  have kn := Disk8.new 5000 W W (by decide) (Below.refl _ _)
  have HG : Hid (Gl11 W) := h0
  clear h0
  go_enter Tryz.func17, Tryz.ntmps17
  go_wp2_with fail
  refine kn.mono ?_
  rintro _ w1 ⟨rfl, hd1, -⟩
  generalize W.heap.size + 1 = d at *
  generalize (fun k => W.heap.size ≤ k ∧ k < w1.heap.size) = S1 at *
  have kp := plain_any 5 ⟨by decide, by decide⟩ w1
  have hz1 : ∀ k, S1 k → k < w1.heap.size := fun k hk => (hd1.own k hk).2
  clear kn
  go_wp2_with fail
  refine kp.mono ?_
  rintro _ w2 ⟨rfl, hF2, hb2⟩
  have ks := saveS_any (hd1.below hb2) HG.out (okN_empty 5000 (by decide)) (by decide) (plainV 5 (w1.heap.size + 1)) hF2 (fun k hk hs => by have := plain_in _ _ hk; have := hz1 k hs; omega) (show 3 ≤ 1048576 by decide)
  have e1 : (save12 (DM.empty 5000) (plainV 5 (w1.heap.size + 1)).s).1 = 0 := lS_errs.1
  rw [e1] at ks
  have ks2 := ks.mono (R' := fun e w' => e = .returned (.int .i64 0) ∧ Hid (∃ S, Disk8 W w' d S lS1)) fun e w' he => ⟨he.1, _, he.2.1⟩
  generalize (plainV 5 (w1.heap.size + 1)).arr = pa at *
  clear kp ks e1 hF2 hd1 hz1 hb2
  go_wp2_with fail
  refine ks2.mono ?_
  rintro _ w3 ⟨rfl, hS3⟩
  obtain ⟨S3, hd3⟩ := hS3.out
  have kp := plain_any 9 ⟨by decide, by decide⟩ w3
  have hz3 : ∀ k, S3 k → k < w3.heap.size := fun k hk => (hd3.own k hk).2
  clear ks2 hS3
  go_wp2_with fail
  refine kp.mono ?_
  rintro _ w4 ⟨rfl, hF4, hb4⟩
  have ks := saveS_any (hd3.below hb4) HG.out lS_ok1 (by decide) (plainV 9 (w3.heap.size + 1)) hF4 (fun k hk hs => by have := plain_in _ _ hk; have := hz3 k hs; omega) (show 3 ≤ 1048576 by decide)
  have e1 : (save12 lS1 (plainV 9 (w3.heap.size + 1)).s).1 = 0 := lS_errs.2
  rw [e1] at ks
  have ks2 := ks.mono (R' := fun e w' => e = .returned (.int .i64 0) ∧ Hid (∃ S, Disk8 W w' d S lS2)) fun e w' he => ⟨he.1, _, he.2.1⟩
  generalize (plainV 9 (w3.heap.size + 1)).arr = pb at *
  clear kp ks e1 hF4 hd3 hz3 hb4
  go_wp2_with fail
  refine ks2.mono ?_
  rintro _ w5 ⟨rfl, hS5⟩
  obtain ⟨S5, hd5⟩ := hS5.out
  have kl := loadS_any hd5 HG.out lS_ok2.inv
  obtain ⟨g1, g2, g3⟩ := lS_load
  have HYi : Hid ((lod12 lS2).1.i = 9) := g1
  rw [g2, g3] at kl
  clear ks2 hS5 g1 g2 g3
  go_wp2_with fail
  refine kl.mono ?_
  rintro _ w6 ⟨Y, rfl, hY, hO, hb6⟩
  have hbx := heap_alloc_new w6 (.cells #[.int .i64 0, .int .i64 0, .slice none 0 0, .slice none 0 0, .slice none 0 0] 47)
  have hth := there_box hbx 0 5 (Nat.le_refl _)
  have hst := stS_arr Y hth
  have hb7 : Below w6.heap.size w6 ((w6.alloc (.cells #[.int .i64 0, .int .i64 0, .slice none 0 0, .slice none 0 0, .slice none 0 0] 47)).setCells w6.heap.size 0 Y.arr.toList) := setCells_below (Nat.le_refl _) _ _ ((Below.refl _ _).alloc (Nat.le_refl _) _)
  have hy7 : SnapAt ((w6.alloc (.cells #[.int .i64 0, .int .i64 0, .slice none 0 0, .slice none 0 0, .slice none 0 0] 47)).setCells w6.heap.size 0 Y.arr.toList) w6.heap.size Y := setS_box Y hbx rfl
  have cy : ((w6.alloc (.cells #[.int .i64 0, .int .i64 0, .slice none 0 0, .slice none 0 0, .slice none 0 0] 47)).setCells w6.heap.size 0 Y.arr.toList).cell? ⟨w6.heap.size, 0, none⟩ = some (.int .i64 9) := by
    rw [(SnapAt.cells hy7).1, ← HYi.out, ← hY]
    rfl
  have ly := box_lt hy7
  have hd7 := (hd5.below hb6).below hb7
  have kL := list_any hd7.at8 lS_ok2.inv
  rw [lS_list] at kL
  have HB7 : Hid (Below W.heap.size W ((w6.alloc (.cells #[.int .i64 0, .int .i64 0, .slice none 0 0, .slice none 0 0, .slice none 0 0] 47)).setCells w6.heap.size 0 Y.arr.toList)) := hd7.bel
  clear kl hbx hth hb7 hy7 hd7 hd5 hb6 hO hY
  go_wp2_with fail
  refine kL.mono ?_
  rintro _ w8 ⟨⟨v8, rfl, ho8⟩, hb8⟩
  have hb9 : Below w8.heap.size w8 (w8.alloc (.cells #[.string ⟨#[115, 110, 97, 112, 45, 57]⟩] 9)) := (Below.refl _ _).alloc (Nat.le_refl _) _
  have hB9 := heap_alloc_new w8 (.cells #[.string ⟨#[115, 110, 97, 112, 45, 57]⟩] 9)
  have kt := texts8 v8 (.slice (some ⟨w8.heap.size, 0, none⟩) 1 1) [⟨#[115, 110, 97, 112, 45, 57]⟩] [⟨#[115, 110, 97, 112, 45, 57]⟩] (w8.alloc (.cells #[.string ⟨#[115, 110, 97, 112, 45, 57]⟩] 9)) (HasT8.of_row12 ho8 hb9) ⟨_, _, rfl, Nat.le_refl _, (fun h => by cases h), fun _ => ⟨w8.heap.size, 0, rfl, box_lt hB9, fun i hi => by
    have hi0 : i = 0 := by have : i < 1 := hi; omega
    subst hi0
    exact box_cell hB9 0⟩⟩ (by decide) (by decide)
  rw [decide_eq_true rfl] at kt
  have HB8 : Hid (Below W.heap.size W (w8.alloc (.cells #[.string ⟨#[115, 110, 97, 112, 45, 57]⟩] 9))) := HB7.out.trans ((hb8.trans (hb9.mono hb8.size)).mono HB7.out.size)
  clear kL ho8 hb8 hb9 hB9 cy hst
  go_wp2_with fail
  refine kt.mono ?_
  rintro _ w9 ⟨rfl, hb9⟩
  have HB9 : Hid (Below W.heap.size W w9) := HB8.out.trans (hb9.mono HB8.out.size)
  clear kt hb9
  go_wp2
  go_ret
  exact ⟨rfl, HB9.out⟩
theorem livesS_all {w : World} (h : Gl11 w) : ∀ V, Below w.heap.size w V → Calls Tryz.prog 17 #[] V fun e w' => e = .returned (.bool true) ∧ Below V.heap.size V w' := fun V hb => livesS_any V (h.below hb (Nat.le_refl _))
end Go.Proofs.YtojfihfdnchkeaaGreatDoor

namespace Go.Proofs.YtojfihfdnchkeaaGreatDoor
open Go.RowKit
section
variable {M : DM}
end
def In12 (s : Snap10) : Prop := inI s.i ∧ inI s.t ∧ inL s.f.vs ∧ inL s.f.ls ∧ IsB s.d
theorem flip12_all : ∀ x : Fin 256, ∀ r : Fin 8, bits BinOp.xor .u8 (x.val : Int) (2 ^ r.val % 256) ≠ (x.val : Int) := by decide +kernel
theorem flip12_ne (x : Int) (m : Nat) (hx : 0 ≤ x ∧ x ≤ 255) : bits BinOp.xor .u8 x (2 ^ (m % 8) % 256) ≠ x := by
  have := flip12_all ⟨x.toNat, by omega⟩ ⟨m % 8, by omega⟩
  simpa [show ((x.toNat : Nat) : Int) = x by omega] using this
theorem chunk_lens {s : Snap10} {c : List Int} (h : c ∈ chunks12 s) : 9 ≤ c.length ∧ c.length ≤ 4104 := by
  unfold chunks12 at h
  have hh := head_len s (snapB s)
  rcases List.mem_cons.1 h with rfl | h
  · rw [frameB_length]; omega
  · obtain ⟨p, hp, rfl⟩ := List.mem_map.1 h
    have h2 := pieces_len hp
    unfold pieces12 at hp
    obtain ⟨j, hj, rfl⟩ := List.mem_map.1 hp
    have h3 := npiece_lt.2 (List.mem_range.1 hj)
    have h4 : 1 ≤ (piece12 (snapB s) j).length := by
      unfold piece12
      rw [List.length_take, List.length_drop]
      omega
    rw [frameB_length]
    omega
theorem chunk_two (s : Snap10) : 2 ≤ (chunks12 s).length := by
  have h1 := (chunks_at s).1
  have h2 := snapB_pos s
  have h3 : 1 ≤ npiece12 (snapB s) := by unfold npiece12; omega
  omega
theorem readS_in12 (xs : List Int) : inI (readS12 xs).1.i ∧ inI (readS12 xs).1.t := by
  have h1 : inI (snap10 9 (xs, false)).1.i := int9_in _
  have h2 : inI (snap10 9 (xs, false)).1.t := int9_in _
  unfold readS12 whole10
  split
  · exact ⟨h1, h2⟩
  · exact ⟨⟨by decide, by decide⟩, ⟨by decide, by decide⟩⟩
theorem join_in12 (b : List Int) : inI (join12 b).1.i ∧ inI (join12 b).1.t := by
  have h := readS_in12 (data12 b)
  have hn : inI noS10.i ∧ inI noS10.t := ⟨⟨by decide, by decide⟩, ⟨by decide, by decide⟩⟩
  unfold join12
  generalize readS12 (data12 b) = R at *
  by_cases hc : R.2 = 0 ∧ whole12 R.1 = b
  · rw [if_pos hc]; exact h
  · rw [if_neg hc]; exact hn
theorem back_cut {s : Snap10} (h1 : inI s.i) (h2 : inI s.t) (hl : (whole12 s).length ≤ 1200000) {m : Nat} (hm : m < (whole12 s).length) : (join12 ((whole12 s).take m)).2 = 8 := by
  rcases join_two ((whole12 s).take m) with h | h
  · exfalso
    obtain ⟨-, hw⟩ := join_ok h
    obtain ⟨h3, h4⟩ := join_in12 ((whole12 s).take m)
    generalize (join12 ((whole12 s).take m)).1 = s' at *
    have l1 := whole_len s
    have l2 := whole_len s'
    have l3 := congrArg List.length hw
    rw [List.length_take] at l3
    have hd := whole_cut (s := s) (s' := s') h1 h2 h3 h4 (by omega) (by omega) (r := (whole12 s).drop m) (by rw [hw, List.take_append_drop])
    have := congrArg List.length hd
    rw [List.length_drop, List.length_nil] at this
    omega
  · rw [h]
theorem back_turned (s : Snap10) (j : Nat) (y : Int) (hj4 : 4 ≤ j) (hj : j < (frameB (headB12 s (snapB s))).length) (hy : 0 ≤ y ∧ y ≤ 255) (hne : y ≠ (whole12 s).getD j 0) : (join12 ((whole12 s).set j y)).2 = 8 := by
  have hh := head_len s (snapB s)
  have hx := head_isB s (snapB s)
  rw [whole_eq] at hne ⊢
  generalize headB12 s (snapB s) = xs at *
  generalize ((pieces12 (snapB s)).map frameB).flatten = r at *
  have hjl := hj
  rw [frameB_length] at hj
  have e0 : (frameB xs ++ r).getD j 0 = (frameB xs).getD j 0 := by
    rw [List.getD_eq_getElem?_getD, List.getD_eq_getElem?_getD, List.getElem?_append_left hjl]
  rw [e0] at hne
  have e1 : (frameB xs ++ r).set j y = (frameB xs).set j y ++ r := List.set_append_left _ _ hjl
  have hc : cntS ((frameB xs).set j y) = xs.length := by
    have := cnt_frame xs [] (by omega)
    rw [List.append_nil] at this
    rw [← this]
    unfold cntS
    congr 1
    congr 1
    obtain ⟨i, rfl⟩ : ∃ i, j = i + 4 := ⟨j - 4, by omega⟩
    simp [frameB, frameH, lowB, List.range_succ]
  have hl : ((frameB xs).set j y).length = xs.length + 8 := by rw [List.length_set, frameB_length]
  rw [e1, join_none]
  rw [unframe_more _ _ (by omega) (by omega)]
  exact unframe_turned xs (by omega) hx j y hj4 hj hy hne
end Go.Proofs.YtojfihfdnchkeaaGreatDoor

namespace Go.Proofs.YtojfihfdnchkeaaGreatDoor
open Go.RowKit Go.Shelf
def GrE (FM : Prop) (w : World) (e : Ending) (w' : World) : Prop := ∃ r : Bool, e = .returned (.bool r) ∧ (r = false → FM) ∧ Below w.heap.size w w'
set_option maxRecDepth 100000 in
set_option maxHeartbeats 3000000 in
theorem greatS_any (x : SnapV) (w : World) (hF : FitsS w x) : Calls Tryz.prog 16 #[.agg x.arr] w (GrE (x.d.length ≤ 20000) w) := by
  have hb1 : Below w.heap.size w (w.alloc (.cells x.arr 47)) := (Below.refl _ _).alloc (Nat.le_refl _) _
  have hd := hF.w.len.1
  have hn := hF.f.u.len.1
  have hm := hF.f.v.len.1
  have ld := hF.l
  have ln := hF.f.lu
  have lm := hF.f.lv
  rw [hd] at ld
  rw [hn] at ln
  rw [hm] at lm
  have HF : Hid (x.w.n ≤ 20000 → x.d.length ≤ 20000) := fun h => by omega
  clear hF hd hn hm
  generalize (x.d.length ≤ 20000) = FM at *
  obtain ⟨i, t, ⟨⟨p, n, c⟩, ⟨q, m, d⟩, f⟩, ⟨a', b', e'⟩, dd⟩ := x
  unfold SnapV.arr at *
  dsimp only at *
  by_cases hg : 20000 < b'
  · go_enter Tryz.func16, Tryz.ntmps16
    go_wp2
    go_ret
    exact ⟨_, rfl, (fun h => by cases h), hb1⟩
  · have hg' : ¬ (20000 : Int) < (b' : Int) := by omega
    go_enter Tryz.func16, Tryz.ntmps16
    go_wp2
    go_ret
    exact ⟨_, rfl, (fun _ => HF.out (by omega)), hb1⟩
end Go.Proofs.YtojfihfdnchkeaaGreatDoor

namespace Go.Proofs.YtojfihfdnchkeaaGreatDoor
open Go.RowKit Go.Shelf Go.Maps
attribute [local go_sem ↓] ldE_exec stE_exec ldE_execI stE_execI ldC_exec stC_exec ldC_execI stC_execI ldS_exec stS_exec ldS_execI stS_execI ldS_run ldS_box ldW_exec stW_exec ldW_execI stW_execI ldR_exec stR_exec ldR_execI stR_execI ldT_exec stT_exec ldT_execI stT_execI ldU_exec stU_exec ldU_execI stU_execI ldH_exec stH_exec ldH_execI stH_execI oc_int oc_bool oc_string oc_slice oc_pointer
theorem FitsS.in12 {W : World} {x : SnapV} (h : FitsS W x) : In12 x.s := ⟨h.i, h.t, h.f.iu, h.f.iv, h.b⟩

theorem lay12 (w : World) (Y : SnapV) (hF : FitsS w Y) : ∃ w', (w.alloc (.cells #[.int .i64 0, .int .i64 0, .slice none 0 0, .slice none 0 0, .slice none 0 0] 47)).setCells w.heap.size 0 Y.arr.toList = w' ∧ Below w.heap.size w w' ∧ SnapAt w' w.heap.size Y ∧ FitsS w' Y := by
  have hbx := heap_alloc_new w (.cells #[.int .i64 0, .int .i64 0, .slice none 0 0, .slice none 0 0, .slice none 0 0] 47)
  have hb : Below w.heap.size w ((w.alloc (.cells #[.int .i64 0, .int .i64 0, .slice none 0 0, .slice none 0 0, .slice none 0 0] 47)).setCells w.heap.size 0 Y.arr.toList) := setCells_below (Nat.le_refl _) _ _ ((Below.refl _ _).alloc (Nat.le_refl _) _)
  exact ⟨_, rfl, hb, setS_box Y hbx rfl, hF.below hb⟩

def TrE (W : World) (e : Ending) (w' : World) : Prop := e = .returned (.bool true) ∧ Below W.heap.size W w'

theorem RowC.at {w : World} {B : Nat} {s : Sl10} {ys : List (Sl10 × List Int)} (h : RowC w B s ys) {j : Nat} (hj : j < ys.length) : ∃ g, s.p = some ⟨g, 0, none⟩ ∧ s.n = ys.length ∧ s.n ≤ s.c ∧ g < w.heap.size ∧ ∃ y : Sl10 × List Int, ys[j]? = some y ∧ w.cell? ⟨g, j, none⟩ = some (.slice y.1.p y.1.n y.1.c) ∧ y ∈ ys := by
  rcases h.row.2 with ⟨hv, hn⟩ | ⟨g, cap, cur, hv, hB, hg, hnc, _, _, _⟩
  · omega
  · have hv' := hv
    simp only [Value.slice.injEq] at hv
    obtain ⟨e1, e2, e3⟩ := hv
    refine ⟨g, e1, e2, by omega, box_lt hg, ys[j], List.getElem?_eq_getElem hj, ?_, List.getElem_mem hj⟩
    have hc := World.ownsRow.cells h.row (g := g) (by rw [hv']; rfl) j (slV ys[j]) (by simp [hj])
    rw [Addr.add_lit, Nat.zero_add] at hc
    exact hc
theorem RowC.num {w : World} {B : Nat} {s : Sl10} {ys : List (Sl10 × List Int)} (h : RowC w B s ys) : s.n = ys.length := by
  rcases h.row.2 with ⟨hv, hn⟩ | ⟨g, cap, cur, hv, hB, hg, hnc, _, _, _⟩
  · simp only [Value.slice.injEq] at hv; omega
  · simp only [Value.slice.injEq] at hv; omega
structure Bs12 (W V : World) (a : SnapV) : Prop where
  ba : SnapAt V W.heap.size a
  bel : Below W.heap.size W V
  fa : FitsS V a
theorem Bs12.below {W V V' : World} {a : SnapV} (h : Bs12 W V a) (hb : Below V.heap.size V V') : Bs12 W V' a := ⟨box_below h.ba hb, h.bel.trans (hb.mono h.bel.size), h.fa.below hb⟩
theorem snap_few12 {W : World} {x : SnapV} (_h : FitsS W x) (hg : goodS10 x.s = true) : (whole12 x.s).length ≤ 1200000 ∧ IsB (whole12 x.s) := by
  have hfw := good_few hg
  have hsb := snapB_big (s := x.s) ⟨by omega, by omega⟩ hfw.2.2
  have hwl := whole_len x.s
  have hhl := head_len x.s (snapB x.s)
  have hnp : npiece12 (snapB x.s) ≤ 1000 := by unfold npiece12; omega
  refine ⟨by omega, ?_⟩
  intro z hz
  obtain ⟨c, hc, hz⟩ := List.mem_flatten.1 hz
  have := chunks_isB12 (s := x.s) _h.b c hc z hz
  omega

set_option maxRecDepth 100000 in
set_option maxHeartbeats 1000000 in
theorem snapBack_of (a : SnapV) (cut bit : Int) (hcut : 0 ≤ cut ∧ cut ≤ 18446744073709551615) (hbit : 0 ≤ bit ∧ bit ≤ 18446744073709551615) (W : World) (ha : FitsS W a) (gl : Gl11 W) : Calls Tryz.prog 7 #[.agg a.arr, .int .u64 cut, .int .u64 bit] W (TrE W) := by
  have HG : Hid (∀ V, Below W.heap.size W V → Tab V) := fun V hb => (gl.below hb (Nat.le_refl _)).tab
  have HL : Hid _ := livesS_all gl
  have hb1 : Below W.heap.size W (W.alloc (.cells a.arr 47)) := (Below.refl _ _).alloc (Nat.le_refl _) _
  have x1 : Bs12 W (W.alloc (.cells a.arr 47)) a := ⟨heap_alloc_new W _, hb1, ha.below hb1⟩
  have HX1 : Hid _ := x1
  have hla := ldS_box _ _ _ _ _ x1.ba rfl
  have kg := greatS_any a _ x1.fa
  clear gl ha x1 hb1
  go_enter Tryz.func7, Tryz.ntmps7
  go_wp2_with fail
  refine kg.mono ?_
  rintro _ w2 ⟨ra, rfl, hra, hb2⟩
  have x2 := HX1.out.below hb2
  have HX2 : Hid _ := x2
  clear kg hla HX1 hb2
  cases ra with
  | true =>
    have k9 := HL.out w2 x2.bel
    clear x2
    go_wp2_with fail
    refine k9.mono ?_
    rintro _ w3 ⟨rfl, hb3⟩
    go_wp2
    go_ret
    exact ⟨rfl, (HX2.out.below hb3).bel⟩
  | false =>
    have hla := ldS_box _ _ _ _ _ x2.ba rfl
    have kc := chunksP_any a w2 (HG.out w2 x2.bel) x2.fa
    clear hra x2
    go_wp2_with fail
    refine kc.mono ?_
    rintro _ w3 ⟨l, ys, rfl, hys, hrow, hb3⟩
    have x3 := HX2.out.below hb3
    have HX3 : Hid _ := x3
    have HR3 : Hid (RowC w3 w2.heap.size l ys) := hrow
    have HYs : Hid (ys.map Prod.snd = chs12 a.s) := hys
    have hln := hrow.num
    have hla := ldS_box _ _ _ _ _ x3.ba rfl
    have kgd := rgoodSnap_any a w3 x3.fa
    have HFw : Hid (goodS10 a.s = true → (whole12 a.s).length ≤ 1200000 ∧ IsB (whole12 a.s)) := snap_few12 x3.fa
    have HIn : Hid (In12 a.s) := x3.fa.in12
    clear kc hys hrow hb3 x3 HX2
    cases hg : goodS10 a.s with
    | false =>
      rw [hg] at kgd
      have h0 : l.n = 0 := by
        have := congrArg List.length HYs.out
        rw [List.length_map] at this
        unfold chs12 at this
        rw [if_neg (by rw [hg]; decide), List.length_nil] at this
        omega
      rw [h0]
      go_wp2_with fail
      refine kgd.mono ?_
      rintro _ w4 ⟨rfl, hb4⟩
      have x4 := HX3.out.below hb4
      have k9 := HL.out w4 x4.bel
      clear kgd hla
      go_wp2_with fail
      refine k9.mono ?_
      rintro _ w5 ⟨rfl, hb5⟩
      go_wp2
      go_ret
      exact ⟨rfl, (x4.below hb5).bel⟩
    | true =>
      rw [hg] at kgd
      go_wp2_with fail
      refine kgd.mono ?_
      rintro _ w4 ⟨rfl, hb4⟩
      have x4 := HX3.out.below hb4
      have HX4 : Hid _ := x4
      have HR4 : Hid (RowC w4 w2.heap.size l ys) := HR3.out.below hb4
      have HYc : Hid (ys.map Prod.snd = chunks12 a.s) := by
        rw [Hid, HYs.out]
        unfold chs12
        rw [if_pos hg]
      have hn2 : 2 ≤ ys.length := by
        have h1 := chunk_two a.s
        rw [← HYc.out, List.length_map] at h1
        exact h1
      have hwl := (HFw.out hg).1
      have HWB : Hid (IsB (whole12 a.s)) := (HFw.out hg).2
      have HJb : Hid (join12 (whole12 a.s) = (a.s, 0)) := join_back hg (good_short hg HIn.out.1 HIn.out.2.1 HIn.out.2.2.1 HIn.out.2.2.2.1)
      have HJc : Hid (∀ m, m < (whole12 a.s).length → (join12 ((whole12 a.s).take m)).2 = 8) := fun m hm => back_cut HIn.out.1 HIn.out.2.1 hwl hm
      have HWf : Hid (whole12 a.s = (ys.map Prod.snd).flatten) := by rw [Hid, HYc.out]; rfl
      have HCl : Hid (∀ y ∈ ys, 9 ≤ y.2.length ∧ y.2.length ≤ 4104) := fun y hy => chunk_lens (s := a.s) (by rw [← HYc.out]; exact List.mem_map_of_mem hy)
      have hny : ys.length ≤ 1000000 := by
        have h1 := (chunks_at a.s).1
        rw [← HYc.out, List.length_map] at h1
        have h2 := whole_len a.s
        unfold npiece12 at h1
        omega
      clear kgd hla hb4 HR3 HYs x4 HX3 HFw
      obtain ⟨i0, hi8, hi0, hi1, hi2⟩ := info_parts info8c
      go_wp2
      go_loopw [8, 34] (fun s8 s34 wr => ∃ (j : Nat) (pb : Option Addr) (nb cb : Nat), s8 = .slice pb nb cb ∧ s34 = .int .i64 (j : Nat) ∧ j ≤ ys.length ∧ Hid (Owns wr w4.heap.size 5 (.slice pb nb cb) ((ys.map Prod.snd).take j).flatten) ∧ Below w4.heap.size w4 wr) (fun _ s34 _ => ys.length - (intOf s34).toNat)
      case atStart => exact ⟨0, none, 0, 0, rfl, rfl, Nat.zero_le _, Owns.nil w4 w4.heap.size _, Below.refl _ _⟩
      case round =>
        obtain ⟨j, pb, nb, cb, rfl, rfl, hj, HO, hb⟩ := hrel
        by_cases hjn : j < ys.length
        · obtain ⟨g, hp, hn, hc, hgl, ⟨yl, yb⟩, hyj, hcell, hym⟩ := (HR4.out.below hb).at hjn
          dsimp only at hcell hn hc
          have hhas : Has wr (.slice yl.p yl.n yl.c) yb := (HR4.out.below hb).has _ hym
          have hyn : yb.length = yl.n := hhas.len.1
          have hlen : 9 ≤ yb.length ∧ yb.length ≤ 4104 := HCl.out _ hym
          have hmj : (ys.map Prod.snd)[j]? = some yb := by rw [List.getElem?_map, hyj]; rfl
          have HN : Hid (((ys.map Prod.snd).take (j + 1)).flatten = ((ys.map Prod.snd).take j).flatten ++ yb) := by
            rw [Hid, List.take_add_one, hmj, List.flatten_append]
            simp
          have A1 : ((ys.map Prod.snd).take j).flatten.length ≤ 1099511627776 := by
            have h1 := flat_pre12 (List.take_prefix j (ys.map Prod.snd))
            rw [← HWf.out] at h1
            omega
          have A2 : yb.length ≤ 1099511627776 := by omega
          have hzb := hb.size
          have hl9 : ¬ yl.n < 9 := by omega
          have hl4 : ¬ 4104 < yl.n := by omega
          have hl9' : ¬ (yl.n : Int) < 9 := by omega
          have hl4' : ¬ (4104 : Int) < (yl.n : Int) := by omega
          have hO := HO.out
          generalize ((ys.map Prod.snd).take j).flatten = xs at *
          rw [hp] at *
          clear HO hmj hyj hym
          go_wp2_with (at_builtin; refine ap_slice _ rfl _ _ 38 rfl w4.heap.size 5 i0 Tryz.underlying38 hi8 hi0 hi1 hi2 (.slice pb nb cb) xs yb rfl hhas hO A1 A2 hzb ?_; intro v' w' ho' hb'; refine Halt8.out ?_)
          obtain ⟨s', rfl, -⟩ := ho'.slice12
          have HO3 : Hid (Owns w' w4.heap.size 5 (.slice s'.p s'.n s'.c) ((ys.map Prod.snd).take (j + 1)).flatten) := by rw [Hid, HN.out]; exact ho'
          have HB3 : Hid (Below w4.heap.size w4 w') := hb.trans hb'
          clear ho' hb' hO hhas hcell HN
          constructor
          go_wp2
          go_roundw
          case rel => exact ⟨j + 1, s'.p, s'.n, s'.c, rfl, by go_num, by omega, HO3, HB3.out⟩
          case measure => simp only [intOf]; omega
        · obtain rfl : j = ys.length := by omega
          have hO0 := HO.out
          rw [List.take_of_length_le (by rw [List.length_map]; exact Nat.le_refl _), ← HWf.out] at hO0
          obtain ⟨g0, hp0, hn0, hc0, hgl0, ⟨yl, yb⟩, hyj, hcell0, hym⟩ := HR4.out.at (show 0 < ys.length by omega)
          have hyn : yb.length = yl.n := (HR4.out.has _ hym).len.1
          have hyl : 9 ≤ yb.length ∧ yb.length ≤ 4104 := HCl.out _ hym
          have hyf : yb = frameB (headB12 a.s (snapB a.s)) := by
            have h1 : (ys.map Prod.snd)[0]? = some yb := by rw [List.getElem?_map, hyj]; rfl
            rw [HYc.out] at h1
            unfold chunks12 at h1
            rw [List.getElem?_cons_zero] at h1
            exact (Option.some.inj h1).symm
          have HJt : Hid (∀ j y, 4 ≤ j → j < yb.length → (0 ≤ y ∧ y ≤ 255) → y ≠ (whole12 a.s).getD j 0 → (join12 ((whole12 a.s).set j y)).2 = 8) := fun j y h1 h2 h3 h4 => back_turned a.s j y h1 (by rw [← hyf]; exact h2) h3 h4
          have hyw : yb.length ≤ (whole12 a.s).length := by
            rw [HWf.out]
            have h1 : (ys.map Prod.snd)[0]? = some yb := by rw [List.getElem?_map, hyj]; rfl
            cases hm : ys.map Prod.snd with
            | nil => rw [hm] at h1; cases h1
            | cons c t =>
              rw [hm] at h1
              obtain rfl : c = yb := Option.some.inj h1
              rw [List.flatten_cons, List.length_append]
              omega
          dsimp only at hcell0 hn0 hc0
          have HCell : Hid (∀ V, Below w4.heap.size w4 V → V.cell? ⟨g0, 0, none⟩ = some (.slice yl.p yl.n yl.c)) := fun V hV => (hV.cell (p := ⟨g0, 0, none⟩) hgl0).trans hcell0
          rw [hp0] at *
          generalize whole12 a.s = xs at *
          clear HO hyj hym hyf HWf HCl HYc HR4 hcell0
          obtain ⟨g, cap, hv, hBg, hgw, hcap, -, -⟩ := hO0.form (by omega)
          simp only [Value.slice.injEq] at hv
          obtain ⟨rfl, rfl, rfl⟩ := hv
          have HOr : Hid (Owns wr w4.heap.size 5 (.slice (some ⟨g, 0, none⟩) xs.length cb) xs) := hO0
          have xr := HX4.out.below hb
          have kj := joinS_any ⟨some ⟨g, 0, none⟩, xs.length, cb⟩ xs wr (HG.out wr xr.bel) hO0.has HWB.out (by omega)
          rw [HJb.out] at kj
          dsimp only at kj
          have hn2' : ¬ (ys.length : Int) < 2 := by omega
          clear hO0 xr
          go_wp2_with fail
          refine kj.mono ?_
          rintro _ w5 ⟨Y, rfl, hY, hOY, hb5⟩
          obtain ⟨w6, hw6, hb6, hy6, hF6⟩ := lay12 w5 Y hOY.fits
          have hst := stS_arr Y (there_box (heap_alloc_new w5 (.cells #[.int .i64 0, .int .i64 0, .slice none 0 0, .slice none 0 0, .slice none 0 0] 47)) 0 5 (Nat.le_refl _))
          rw [hw6] at hst
          have hbr6 : Below wr.heap.size wr w6 := hb5.trans (hb6.mono hb5.size)
          have HB6 : Hid (Below w4.heap.size w4 w6) := hb.trans (hbr6.mono hb.size)
          have HO6 : Hid (Owns w6 w4.heap.size 5 (.slice (some ⟨g, 0, none⟩) xs.length cb) xs) := HOr.out.below hbr6 (Nat.le_refl _)
          have HS6 : Hid (OwnsS w6 wr.heap.size Y) := hOY.below hb6
          have HY6 : Hid (SnapAt w6 w5.heap.size Y) := hy6
          have HYs : Hid (Y.s = a.s) := hY
          have hz5 := hb5.size
          have hgw5 : g < w5.heap.size := by omega
          obtain ⟨q, hq, hql⟩ : ∃ q : Nat, cut % ((xs.length : Nat) : Int) = (q : Int) ∧ q < xs.length := by
            have h1 := Int.emod_nonneg cut (show ((xs.length : Nat) : Int) ≠ 0 by omega)
            have h2 := Int.emod_lt_of_pos cut (show 0 < ((xs.length : Nat) : Int) by omega)
            exact ⟨(cut % ((xs.length : Nat) : Int)).toNat, by omega, by omega⟩
          have kj2 := joinS_any ⟨some ⟨g, 0, none⟩, q, cb⟩ (xs.take q) w6 (HG.out w6 (HX4.out.below HB6.out).bel) (HO6.out.has.takeN q (by omega)) (IsB.takeB HWB.out q) (by rw [List.length_take]; omega)
          rw [HJc.out q hql] at kj2
          dsimp only at kj2
          clear kj hY hOY hb5 hb6 hy6 hF6 hw6 hbr6 HOr hb
          go_wp2_with fail
          refine kj2.mono ?_
          rintro _ w7 ⟨Y7, rfl, -, hOY7, hb7⟩
          obtain ⟨w8, hw8, hb8, hy8, hF8⟩ := lay12 w7 Y7 hOY7.fits
          have hst8 := stS_arr Y7 (there_box (heap_alloc_new w7 (.cells #[.int .i64 0, .int .i64 0, .slice none 0 0, .slice none 0 0, .slice none 0 0] 47)) 0 5 (Nat.le_refl _))
          rw [hw8] at hst8
          have hb68 : Below w6.heap.size w6 w8 := hb7.trans (hb8.mono hb7.size)
          have HB8 : Hid (Below w4.heap.size w4 w8) := HB6.out.trans (hb68.mono HB6.out.size)
          have HO8 : Hid (Owns w8 w4.heap.size 5 (.slice (some ⟨g, 0, none⟩) xs.length cb) xs) := HO6.out.below hb68 (Nat.le_refl _)
          have HS8 : Hid (OwnsS w8 wr.heap.size Y) := HS6.out.below hb68
          have HY8 : Hid (SnapAt w8 w5.heap.size Y) := box_below HY6.out hb68
          have hcell8 := HCell.out w8 HB8.out
          have hgl8 : g0 < w8.heap.size := Nat.lt_of_lt_of_le hgl0 HB8.out.size
          obtain ⟨m, hm, hml⟩ : ∃ m : Nat, bit % (8 * ((yl.n : Int) - 8)) = (m : Int) ∧ m < 8 * (yb.length - 8) := by
            have h1 := Int.emod_nonneg bit (show 8 * ((yl.n : Int) - 8) ≠ 0 by omega)
            have h2 := Int.emod_lt_of_pos bit (show 0 < 8 * ((yl.n : Int) - 8) by omega)
            exact ⟨(bit % (8 * ((yl.n : Int) - 8))).toNat, by omega, by omega⟩
          obtain ⟨g', cap', hgc, _, hgw8, _, hcl, hfr⟩ := HO8.out.form (by omega)
          obtain ⟨rfl, rfl⟩ : g' = g ∧ cap' = cb := by
            simp only [Value.slice.injEq, Option.some.injEq, Addr.mk.injEq] at hgc
            exact ⟨hgc.1.1.symm, hgc.2.2.symm⟩
          have hc := hcl (8 + m / 8) (by omega)
          have hf := hfr (8 + m / 8)
          have hxb := HWB.out.getD (8 + m / 8)
          obtain ⟨x, hx⟩ : ∃ x, x = xs.getD (8 + m / 8) 0 := ⟨_, rfl⟩
          rw [← hx] at hc hxb
          have HX : Hid (x = xs.getD (8 + m / 8) 0) := hx
          clear kj2 hOY7 hb7 hb8 hy8 hF8 hw8 hb68 HO6 HS6 HY6 hcl hfr hgc hst hq hx
          clear hcut hql hln hn2' hi8 hi0 hi1 hi2 hcap HJc HJb hj hjn
          go_upto_region 20 with fail
          have hst := Owns.store HO8.out (8 + m / 8) (bits BinOp.xor IntKind.u8 x (2 ^ (m % 8) % 256))
          have hyb : 0 ≤ bits BinOp.xor IntKind.u8 x (2 ^ (m % 8) % 256) ∧ bits BinOp.xor IntKind.u8 x (2 ^ (m % 8) % 256) ≤ 255 := ⟨bits_lo_u8 _ _ _, bits_hi_u8 _ _ _⟩
          have hyn : bits BinOp.xor IntKind.u8 x (2 ^ (m % 8) % 256) ≠ xs.getD (8 + m / 8) 0 := by rw [← HX.out]; exact flip12_ne x m hxb
          have hbs : Below w4.heap.size w4 (w8.setCell ⟨g', 8 + m / 8, none⟩ (.int .u8 (bits BinOp.xor IntKind.u8 x (2 ^ (m % 8) % 256)))) := HB8.out.setCell (p := ⟨g', 8 + m / 8, none⟩) hBg _
          have HJ8 : Hid ((join12 (xs.set (8 + m / 8) (bits BinOp.xor IntKind.u8 x (2 ^ (m % 8) % 256)))).2 = 8) := HJt.out _ _ (by omega) (by omega) hyb hyn
          have HS9 : Hid (OwnsS (w8.setCell ⟨g', 8 + m / 8, none⟩ (.int .u8 (bits BinOp.xor IntKind.u8 x (2 ^ (m % 8) % 256)))) wr.heap.size Y) := HS8.out.cell hgw _ _
          have HY9 : Hid (SnapAt (w8.setCell ⟨g', 8 + m / 8, none⟩ (.int .u8 (bits BinOp.xor IntKind.u8 x (2 ^ (m % 8) % 256)))) w5.heap.size Y) := (Below.heap_setCell _ _ _ _ (by show w5.heap.size ≠ g'; omega)).trans HY8.out
          have hO9 := hst.1
          have hB9 := set_isB HWB.out (8 + m / 8) _ hyb
          have hl9 : (xs.set (8 + m / 8) (bits BinOp.xor IntKind.u8 x (2 ^ (m % 8) % 256))).length ≤ 1200000 := by rw [List.length_set]; exact hwl
          generalize w8.setCell ⟨g', 8 + m / 8, none⟩ (.int .u8 (bits BinOp.xor IntKind.u8 x (2 ^ (m % 8) % 256))) = w9 at *
          generalize xs.set (8 + m / 8) (bits BinOp.xor IntKind.u8 x (2 ^ (m % 8) % 256)) = zs at *
          have x9 := HX4.out.below hbs
          have kj3 := joinS_any ⟨some ⟨g', 0, none⟩, xs.length, cap'⟩ zs w9 (HG.out w9 x9.bel) hO9.has hB9 (by omega)
          rw [HJ8.out] at kj3
          dsimp only at kj3
          have HX9 : Hid _ := x9
          clear hst hyb hyn hbs hO9 hB9 hl9 x9 hm hml hc hf hxb hcell8 hst8 HJ8 HJt HS8 HY8 HO8 HX
          go_wp2_with fail
          refine kj3.mono ?_
          rintro _ w10 ⟨Y10, rfl, -, hOY10, hb10⟩
          obtain ⟨w11, hw11, hb11, hy11, hF11⟩ := lay12 w10 Y10 hOY10.fits
          have hst11 := stS_arr Y10 (there_box (heap_alloc_new w10 (.cells #[.int .i64 0, .int .i64 0, .slice none 0 0, .slice none 0 0, .slice none 0 0] 47)) 0 5 (Nat.le_refl _))
          rw [hw11] at hst11
          have hb911 : Below w9.heap.size w9 w11 := hb10.trans (hb11.mono hb10.size)
          have x11 := HX9.out.below hb911
          have hls := ldS_box _ _ _ _ _ (box_below HY9.out hb911) rfl
          have hla := ldS_box _ _ _ _ _ x11.ba rfl
          have ksm := rsameSnap_any Y a w11 (HS9.out.fits.below hb911) x11.fa
          rw [HYs.out, (sameS10_iff a.s a.s).2 rfl] at ksm
          have HX11 : Hid _ := x11
          clear kj3 hOY10 hb10 hb11 hy11 hF11 hw11 hb911 x11 HS9 HY9
          go_wp2_with fail
          refine ksm.mono ?_
          rintro _ w12 ⟨rfl, hb12⟩
          have x12 := HX11.out.below hb12
          have k9 := HL.out w12 x12.bel
          have HX12 : Hid _ := x12
          clear ksm hls hla hb12 x12 hst11
          go_wp2_with fail
          refine k9.mono ?_
          rintro _ w13 ⟨rfl, hb13⟩
          go_wp2
          go_ret
          exact ⟨rfl, (HX12.out.below hb13).bel⟩
end Go.Proofs.YtojfihfdnchkeaaGreatDoor
