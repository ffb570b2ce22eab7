import Derived.Test.YtojfihfdnchkeaaGreatDoorKd6To
import Derived.Test.YtojfihfdnchkeaaGreatDoorDs0To
import Derived.Lib.SlBytesConst
namespace Go.Proofs.YtojfihfdnchkeaaGreatDoor
open Go.RowKit Go.Shelf Go.Maps
attribute [local go_sem ↓] ldE_exec stE_exec ldE_execI stE_execI ldC_exec stC_exec ldC_execI stC_execI ldS_exec stS_exec ldS_execI stS_execI ldS_run ldS_box ldW_exec stW_exec ldW_execI stW_execI ldR_exec stR_exec ldR_execI stR_execI ldT_exec stT_exec ldT_execI stT_execI ldU_exec stU_exec ldU_execI stU_execI ldH_exec stH_exec ldH_execI stH_execI oc_int oc_bool oc_string oc_slice oc_pointer
def plainS (i : Int) : Snap10 := ⟨i, 1, ⟨[1], []⟩, [97, 98, 99]⟩
def plainV (i : Int) (g : Nat) : SnapV := ⟨i, 1, ⟨⟨some ⟨g, 0, none⟩, 1, 1⟩, nilS10, ⟨[1], []⟩⟩, ⟨some ⟨g + 1, 0, none⟩, 3, 3⟩, [97, 98, 99]⟩
set_option maxRecDepth 100000 in
set_option maxHeartbeats 1000000 in
theorem plain_any (i : Int) (hi : inI i) (w : World) : Calls Tryz.prog 70 #[.int .i64 i] w fun e w' => e = .returned (.agg (plainV i (w.heap.size + 1)).arr) ∧ FitsS w' (plainV i (w.heap.size + 1)) ∧ Below w.heap.size w w' := by
  generalize hs : w.heap.size = s at *
  have kc := Lib.run_convert_bytes_const (P := Tryz.prog) ((w.alloc (.cells #[.int .i64 0, .int .i64 0, .slice none 0 0, .slice none 0 0, .slice none 0 0] 47)).alloc (.cells #[.int .i64 1] 3)) 38 5 #[.int .u8 97, .int .u8 98, .int .u8 99] 3 3 Tryz.underlying38 Tryz.underlying5
  obtain ⟨w3, hw3⟩ : ∃ w3, ((w.alloc (.cells #[.int .i64 0, .int .i64 0, .slice none 0 0, .slice none 0 0, .slice none 0 0] 47)).alloc (.cells #[.int .i64 1] 3)).alloc (.cells #[.int .u8 97, .int .u8 98, .int .u8 99] 5 (3, 4)) = w3 := ⟨_, rfl⟩
  have hb3 : Below s w w3 := by rw [← hw3]; exact (((Below.refl _ w).alloc (by omega) _).alloc (by simp; omega) _).alloc (by simp; omega) _
  have hz3 : w3.heap.size = s + 3 := by rw [← hw3]; simp; omega
  have r3 : w3.heap[s]? = some (.cells zeroS 47 (0, 0)) := by
    rw [← hw3, ← hs]
    exact box_below (box_below (heap_alloc_new w _) ((Below.refl _ _).alloc (Nat.le_refl _) _)) ((Below.refl _ _).alloc (Nat.le_refl _) _)
  have i3 : w3.heap[s + 1]? = some (.cells #[.int .i64 1] 3 (0, 0)) := by
    have := heap_alloc_new (w.alloc (.cells #[.int .i64 0, .int .i64 0, .slice none 0 0, .slice none 0 0, .slice none 0 0] 47)) (.cells #[.int .i64 1] 3)
    rw [World.size_alloc, hs] at this
    rw [← hw3]
    exact box_below this ((Below.refl _ _).alloc (Nat.le_refl _) _)
  have b3 : w3.heap[s + 2]? = some (.cells #[.int .u8 97, .int .u8 98, .int .u8 99] 5 (3, 4)) := by
    have := heap_alloc_new ((w.alloc (.cells #[.int .i64 0, .int .i64 0, .slice none 0 0, .slice none 0 0, .slice none 0 0] 47)).alloc (.cells #[.int .i64 1] 3)) (.cells #[.int .u8 97, .int .u8 98, .int .u8 99] 5 (3, 4))
    rw [World.size_alloc, World.size_alloc, hs] at this
    rw [← hw3]; exact this
  rw [World.size_alloc, World.size_alloc, hs] at kc
  have kc2 : (convert 38 38 (.slice (some ⟨s + 1 + 1, 0, none⟩) 3 3)).run Tryz.prog (((w.alloc (.cells #[.int .i64 0, .int .i64 0, .slice none 0 0, .slice none 0 0, .slice none 0 0] 47)).alloc (.cells #[.int .i64 1] 3)).alloc (.cells #[.int .u8 97, .int .u8 98, .int .u8 99] 5)) = .ok (.slice (some ⟨s + 1 + 1, 0, none⟩) 3 3) w3 := by rw [← hw3]; exact kc
  clear kc hw3
  have hth := there_box r3 0 5 (Nat.le_refl _)
  have hst := stS_arr (plainV i (s + 1)) hth
  have R4 : Hid ((w3.setCells s 0 (plainV i (s + 1)).arr.toList).heap[s]? = some (.cells (plainV i (s + 1)).arr 47 (0, 0))) := setS_box _ r3 rfl
  have hgr := setCells_grown s (plainV i (s + 1)).arr.toList 0 w3
  have i4 := (hgr.block (s + 1) (by omega) (by simp)).trans i3
  have b4 := (hgr.block (s + 2) (by omega) (by simp)).trans b3
  have HB4 : Hid (Below s w (w3.setCells s 0 (plainV i (s + 1)).arr.toList)) := setCells_below (Nat.le_refl _) _ _ hb3
  have HF4 : Hid (FitsS (w3.setCells s 0 (plainV i (s + 1)).arr.toList) (plainV i (s + 1))) := by
    refine ⟨hi, (show inI 1 from ⟨by decide, by decide⟩), ⟨?_, HasI.nil _, ?_, (fun _ h => by cases h), (show 1 ≤ 17592186044416 by decide), (show 0 ≤ 17592186044416 by decide)⟩, ?_, ?_, (show 3 ≤ 140737488351232 by decide)⟩
    · refine ⟨_, _, rfl, Nat.le_refl _, (fun h => by cases h), fun _ => ⟨s + 1, 0, rfl, box_lt i4, fun j hj => ?_⟩⟩
      have hj0 : j = 0 := by have : j < 1 := hj; omega
      subst hj0
      exact box_cell i4 0
    · intro z hz
      have : z = 1 := by simpa [plainV] using hz
      subst this
      exact ⟨by decide, by decide⟩
    · refine ⟨_, _, rfl, Nat.le_refl _, (fun h => by cases h), fun _ => ⟨s + 2, 0, rfl, box_lt b4, fun j hj => ?_⟩⟩
      have hj3 : j = 0 ∨ j = 1 ∨ j = 2 := by have : j < 3 := hj; omega
      rcases hj3 with rfl | rfl | rfl
      · exact box_cell b4 0
      · exact box_cell b4 1
      · exact box_cell b4 2
    · intro z hz
      have : z = 97 ∨ z = 98 ∨ z = 99 := by simpa [plainV] using hz
      omega
  have lr := box_lt r3
  clear hb3 i3 b3 i4 b4 hgr r3
  unfold plainV SnapV.arr nilS10 at hst
  dsimp only at hst
  go_enter Tryz.func70, Tryz.ntmps70
  go_wp2
  refine bodyPost_ret (ret_one rfl _ _ s _ _ _ _ rfl R4.out Tryz.underlying47 rfl (by kernel_rfl)) rfl ⟨rfl, HF4.out, HB4.out⟩
theorem okN_save12 {M : DM} {c : Nat} (h : M.OkN c) {s : Snap10} (hB : IsB s.d) : (save12 M s).2.OkN (c + 16777700) := by
  unfold save12
  split
  · exact h.mono (by omega)
  · split
    · rename_i hg
      have hfw := good_few hg.1
      have hf : FewF s.f := ⟨by omega, by omega⟩
      have o4 := st12_ok h hB hf hfw.2.2 4 (Nat.le_refl _)
      have o4' : (sav4 M s).2.OkN (c + 400) := o4
      unfold sav5
      split
      · have hl : (files12 (sav4 M s).2.listT).reverse.length ≤ 16777216 := by
          rw [List.length_reverse]
          refine Nat.le_trans (files12_len _) ?_
          unfold DM.listT
          split
          · exact Nat.zero_le _
          · show (nms (sav4 M s).2.L).length ≤ _
            unfold nms
            rw [List.length_map]
            exact o4'.inv.count
        exact (okN_drop12 _ _ o4').mono (by omega)
      · exact o4'.mono (by omega)
    · exact h.mono (by omega)
theorem HasT8.of_row12 {w w' : World} {B : Nat} {v : Value} {xs : List ByteArray} (h : w.ownsRow B 9 1 v xs.length (textsV8 xs)) (hb : Below w.heap.size w w') : HasT8 w' v xs := by
  rcases h.2 with ⟨rfl, hn⟩ | ⟨g, cap, cur, rfl, hB, hg, hnc, _, _, _⟩
  · exact ⟨none, 0, by rw [hn], by omega, fun _ => rfl, fun h0 => by omega⟩
  · refine ⟨some ⟨g, 0, none⟩, cap, rfl, hnc, (fun h0 => by cases h0), fun _ => ⟨g, 0, rfl, Nat.lt_of_lt_of_le (box_lt hg) hb.size, fun i hi => ?_⟩⟩
    have hc := World.ownsRow.cells h (g := g) rfl i (.string (xs.getD i ByteArray.empty)) (by simp [textsV8, hi, List.getD_eq_getElem?_getD])
    rw [Addr.add_lit] at hc
    exact (hb.cell (p := ⟨g, 0 + i, none⟩) (box_lt hg)).trans hc
def lS1 : DM := (save12 (DM.empty 5000) (plainS 5)).2
def lS2 : DM := (save12 lS1 (plainS 9)).2
set_option maxRecDepth 100000 in
theorem lS_errs : (save12 (DM.empty 5000) (plainS 5)).1 = 0 ∧ (save12 lS1 (plainS 9)).1 = 0 := by decide +kernel
set_option maxRecDepth 100000 in
theorem lS_load : (lod12 lS2).1.i = 9 ∧ (lod12 lS2).2.1 = true ∧ (lod12 lS2).2.2 = 0 := by decide +kernel
set_option maxRecDepth 100000 in
theorem lS_list : lS2.listT = [⟨#[115, 110, 97, 112, 45, 57]⟩] := by decide +kernel
theorem plain_isB (i : Int) : IsB (plainS i).d := by
  intro z hz
  have : z = 97 ∨ z = 98 ∨ z = 99 := by simpa [plainS] using hz
  omega
theorem lS_ok1 : lS1.OkN 16777700 := by
  have := okN_save12 (okN_empty 5000 (by decide)) (plain_isB 5)
  rw [Nat.zero_add] at this
  exact this
theorem lS_ok2 : lS2.OkN (16777700 + 16777700) := okN_save12 lS_ok1 (plain_isB 9)
theorem plain_in (i : Int) (g : Nat) {k : Nat} (h : inSn (plainV i g) k) : g ≤ k := by
  rcases h with h | h | h
  · obtain ⟨-, a, ha, rfl⟩ := h
    have : a = ⟨g, 0, none⟩ := by simpa [plainV] using ha.symm
    rw [this]
    exact Nat.le_refl _
  · exact absurd h.1 (Nat.lt_irrefl 0)
  · obtain ⟨-, a, ha, rfl⟩ := h
    have : a = ⟨g + 1, 0, none⟩ := by simpa [plainV] using ha.symm
    rw [this]
    exact Nat.le_succ _

set_option maxRecDepth 100000 in
set_option maxHeartbeats 1000000 in
theorem livesS_any (W : World) (h0 : Gl11 W) : Calls Tryz.prog 17 #[] W fun e w' => e = .returned (.bool true) ∧ Below W.heap.size W w' := by
  have kn := Disk8.new 5000 W W (by decide) (Below.refl _ _)
  have HG : Hid (Gl11 W) := h0
  clear h0
  go_enter Tryz.func17, Tryz.ntmps17
  go_wp2_with fail
  refine kn.mono ?_
  rintro _ w1 ⟨rfl, hd1, -⟩
  generalize W.heap.size + 1 = d at *
  generalize (fun k => W.heap.size ≤ k ∧ k < w1.heap.size) = S1 at *
  have kp := plain_any 5 ⟨by decide, by decide⟩ w1
  have hz1 : ∀ k, S1 k → k < w1.heap.size := fun k hk => (hd1.own k hk).2
  clear kn
  go_wp2_with fail
  refine kp.mono ?_
  rintro _ w2 ⟨rfl, hF2, hb2⟩
  have ks := saveS_any (hd1.below hb2) HG.out (okN_empty 5000 (by decide)) (by decide) (plainV 5 (w1.heap.size + 1)) hF2 (fun k hk hs => by have := plain_in _ _ hk; have := hz1 k hs; omega) (show 3 ≤ 1048576 by decide)
  have e1 : (save12 (DM.empty 5000) (plainV 5 (w1.heap.size + 1)).s).1 = 0 := lS_errs.1
  rw [e1] at ks
  have ks2 := ks.mono (R' := fun e w' => e = .returned (.int .i64 0) ∧ Hid (∃ S, Disk8 W w' d S lS1)) fun e w' he => ⟨he.1, _, he.2.1⟩
  generalize (plainV 5 (w1.heap.size + 1)).arr = pa at *
  clear kp ks e1 hF2 hd1 hz1 hb2
  go_wp2_with fail
  refine ks2.mono ?_
  rintro _ w3 ⟨rfl, hS3⟩
  obtain ⟨S3, hd3⟩ := hS3.out
  have kp := plain_any 9 ⟨by decide, by decide⟩ w3
  have hz3 : ∀ k, S3 k → k < w3.heap.size := fun k hk => (hd3.own k hk).2
  clear ks2 hS3
  go_wp2_with fail
  refine kp.mono ?_
  rintro _ w4 ⟨rfl, hF4, hb4⟩
  have ks := saveS_any (hd3.below hb4) HG.out lS_ok1 (by decide) (plainV 9 (w3.heap.size + 1)) hF4 (fun k hk hs => by have := plain_in _ _ hk; have := hz3 k hs; omega) (show 3 ≤ 1048576 by decide)
  have e1 : (save12 lS1 (plainV 9 (w3.heap.size + 1)).s).1 = 0 := lS_errs.2
  rw [e1] at ks
  have ks2 := ks.mono (R' := fun e w' => e = .returned (.int .i64 0) ∧ Hid (∃ S, Disk8 W w' d S lS2)) fun e w' he => ⟨he.1, _, he.2.1⟩
  generalize (plainV 9 (w3.heap.size + 1)).arr = pb at *
  clear kp ks e1 hF4 hd3 hz3 hb4
  go_wp2_with fail
  refine ks2.mono ?_
  rintro _ w5 ⟨rfl, hS5⟩
  obtain ⟨S5, hd5⟩ := hS5.out
  have kl := loadS_any hd5 HG.out lS_ok2.inv
  obtain ⟨g1, g2, g3⟩ := lS_load
  have HYi : Hid ((lod12 lS2).1.i = 9) := g1
  rw [g2, g3] at kl
  clear ks2 hS5 g1 g2 g3
  go_wp2_with fail
  refine kl.mono ?_
  rintro _ w6 ⟨Y, rfl, hY, hO, hb6⟩
  have hbx := heap_alloc_new w6 (.cells #[.int .i64 0, .int .i64 0, .slice none 0 0, .slice none 0 0, .slice none 0 0] 47)
  have hth := there_box hbx 0 5 (Nat.le_refl _)
  have hst := stS_arr Y hth
  have hb7 : Below w6.heap.size w6 ((w6.alloc (.cells #[.int .i64 0, .int .i64 0, .slice none 0 0, .slice none 0 0, .slice none 0 0] 47)).setCells w6.heap.size 0 Y.arr.toList) := setCells_below (Nat.le_refl _) _ _ ((Below.refl _ _).alloc (Nat.le_refl _) _)
  have hy7 : SnapAt ((w6.alloc (.cells #[.int .i64 0, .int .i64 0, .slice none 0 0, .slice none 0 0, .slice none 0 0] 47)).setCells w6.heap.size 0 Y.arr.toList) w6.heap.size Y := setS_box Y hbx rfl
  have cy : ((w6.alloc (.cells #[.int .i64 0, .int .i64 0, .slice none 0 0, .slice none 0 0, .slice none 0 0] 47)).setCells w6.heap.size 0 Y.arr.toList).cell? ⟨w6.heap.size, 0, none⟩ = some (.int .i64 9) := by
    rw [(SnapAt.cells hy7).1, ← HYi.out, ← hY]
    rfl
  have ly := box_lt hy7
  have hd7 := (hd5.below hb6).below hb7
  have kL := list_any hd7.at8 lS_ok2.inv
  rw [lS_list] at kL
  have HB7 : Hid (Below W.heap.size W ((w6.alloc (.cells #[.int .i64 0, .int .i64 0, .slice none 0 0, .slice none 0 0, .slice none 0 0] 47)).setCells w6.heap.size 0 Y.arr.toList)) := hd7.bel
  clear kl hbx hth hb7 hy7 hd7 hd5 hb6 hO hY
  go_wp2_with fail
  refine kL.mono ?_
  rintro _ w8 ⟨⟨v8, rfl, ho8⟩, hb8⟩
  have hb9 : Below w8.heap.size w8 (w8.alloc (.cells #[.string ⟨#[115, 110, 97, 112, 45, 57]⟩] 9)) := (Below.refl _ _).alloc (Nat.le_refl _) _
  have hB9 := heap_alloc_new w8 (.cells #[.string ⟨#[115, 110, 97, 112, 45, 57]⟩] 9)
  have kt := texts8 v8 (.slice (some ⟨w8.heap.size, 0, none⟩) 1 1) [⟨#[115, 110, 97, 112, 45, 57]⟩] [⟨#[115, 110, 97, 112, 45, 57]⟩] (w8.alloc (.cells #[.string ⟨#[115, 110, 97, 112, 45, 57]⟩] 9)) (HasT8.of_row12 ho8 hb9) ⟨_, _, rfl, Nat.le_refl _, (fun h => by cases h), fun _ => ⟨w8.heap.size, 0, rfl, box_lt hB9, fun i hi => by
    have hi0 : i = 0 := by have : i < 1 := hi; omega
    subst hi0
    exact box_cell hB9 0⟩⟩ (by decide) (by decide)
  rw [decide_eq_true rfl] at kt
  have HB8 : Hid (Below W.heap.size W (w8.alloc (.cells #[.string ⟨#[115, 110, 97, 112, 45, 57]⟩] 9))) := HB7.out.trans ((hb8.trans (hb9.mono hb8.size)).mono HB7.out.size)
  clear kL ho8 hb8 hb9 hB9 cy hst
  go_wp2_with fail
  refine kt.mono ?_
  rintro _ w9 ⟨rfl, hb9⟩
  have HB9 : Hid (Below W.heap.size W w9) := HB8.out.trans (hb9.mono HB8.out.size)
  clear kt hb9
  go_wp2
  go_ret
  exact ⟨rfl, HB9.out⟩
theorem livesS_all {w : World} (h : Gl11 w) : ∀ V, Below w.heap.size w V → Calls Tryz.prog 17 #[] V fun e w' => e = .returned (.bool true) ∧ Below V.heap.size V w' := fun V hb => livesS_any V (h.below hb (Nat.le_refl _))
end Go.Proofs.YtojfihfdnchkeaaGreatDoor

namespace Go.Proofs.YtojfihfdnchkeaaGreatDoor
open Go.RowKit Go.Shelf Go.Maps
theorem name_list12 {n m : Int} (hn : 1 ≤ n ∧ n ≤ 999999999) : ((nameB12 n).toList == (nameB12 m).toList) = (n == m) := by
  rw [Bool.eq_iff_iff, beq_iff_eq, toListC, beq_iff_eq]
  constructor
  · intro h
    by_cases hm : 1 ≤ m ∧ m ≤ 999999999
    · exact nameB_inj12 hn.1 hn.2 hm.1 hm.2 h
    · rw [name_empty12.2 hm] at h
      exact absurd hn (name_empty12.1 h)
  · intro h
    rw [h]
theorem name_good12 {n : Int} (hn : 1 ≤ n ∧ n ≤ 999999999) : goodN (nameB12 n) = true := by
  have hl : (name12 n).length ≤ 24 ∧ 1 ≤ (name12 n).length := by
    have hb : n.toNat < 10 ^ (19 + 1) := Nat.lt_of_lt_of_le (show n.toNat < 10 ^ 9 by simp; omega) (Nat.pow_le_pow_right (by omega) (by omega))
    have hd : (digs11 20 n.toNat).length ≤ 9 := by
      rw [digs_fuel 20 9 n.toNat hb (by simp; omega) (by omega) (by omega)]
      exact digs_len 9 _ (by simp; omega)
    unfold name12
    rw [if_pos hn, List.length_append]
    show 5 + _ ≤ 24 ∧ 1 ≤ 5 + _
    omega
  have hdata : (nameB12 n).data.toList = (name12 n).map fun z => UInt8.ofNat z.toNat := strOfNums_data _
  have hname : name12 n = pre12 ++ digs11 20 n.toNat := if_pos hn
  have hdg := digs_dig 20 n.toNat
  unfold goodN
  have hsz : (nameB12 n).size = (name12 n).length := strOf_sz _
  rw [hsz, hdata, hname]
  rw [hname] at hl
  simp only [Bool.and_eq_true, decide_eq_true_eq, List.all_eq_true]
  refine ⟨⟨⟨hl.2, hl.1⟩, by rfl⟩, fun c hc => ?_⟩
  obtain ⟨z, hz, rfl⟩ := List.mem_map.1 hc
  rcases List.mem_append.1 hz with hz | hz
  · have : z = 115 ∨ z = 110 ∨ z = 97 ∨ z = 112 ∨ z = 45 := by simpa [pre12] using hz
    rcases this with rfl | rfl | rfl | rfl | rfl <;> decide
  · obtain ⟨h1, h2⟩ := hdg z hz
    have e : (UInt8.ofNat z.toNat).toNat = z.toNat := by
      show z.toNat % 2 ^ 8 = z.toNat
      exact Nat.mod_eq_of_lt (by omega)
    rw [e]
    have : digN z.toNat = true := by
      unfold digN
      simp only [Bool.and_eq_true, decide_eq_true_eq]
      omega
    unfold chN
    rw [this]
    simp

set_option maxRecDepth 100000 in
set_option maxHeartbeats 1000000 in
theorem snapNames_of (n m : Int) (hn : inI n) (hm : inI m) (W : World) (gl : Gl11 W) : Calls Tryz.prog 8 #[.int .i64 n, .int .i64 m] W fun e w' => e = .returned (.bool true) ∧ Below W.heap.size W w' := by
  have k1 := nameS_any n hn W gl
  have K2 : Hid (∀ V, Below W.heap.size W V → Calls Tryz.prog 26 #[.int .i64 m] V fun e w' => e = .returned (.string (nameB12 m)) ∧ Below V.heap.size V w') := fun V hb => nameS_any m hm V (gl.below hb (Nat.le_refl _))
  have HG : Hid (∀ V, Below W.heap.size W V → Gl11 V) := fun V hb => gl.below hb (Nat.le_refl _)
  have HL : Hid _ := livesS_all gl
  clear gl
  by_cases hr : 1 ≤ n ∧ n ≤ 999999999
  · have hq : ¬ (nameB12 n).toList = [] := by
      intro e
      exact name_empty12.1 (toListC.1 (e.trans (show ([] : List UInt8) = (⟨#[]⟩ : ByteArray).toList by simp))) hr
    have hq3 : (nameB12 n).toList.isEmpty = false := by
      rw [Bool.eq_false_iff]
      intro e
      exact hq (List.isEmpty_iff.1 e)
    have hnl := name_list12 (m := m) hr
    have HI : Hid (∀ V, Below W.heap.size W V → Calls Tryz.prog 23 #[.string (nameB12 n)] V fun e w' => e = .returned (.tuple #[.int .i64 n, .bool true]) ∧ Below V.heap.size V w') := fun V hb => by
      have := indexS_any (nameB12 n) (by have := nameB_size12 n; omega) V (HG.out V hb)
      rw [name_num12 hr.1 hr.2] at this
      exact this
    have HGd : Hid (∀ V, Calls Tryz.prog 52 #[.string (nameB12 n)] V fun e w' => e = .returned (.bool true) ∧ w' = V) := fun V => by
      have := good_dk (nameB12 n) (by have := nameB_size12 n; unfold maxLen; omega) V
      rw [name_good12 hr] at this
      exact this
    obtain ⟨hr1, hr2⟩ := hr
    have hlt : ¬ n < 1 := by omega
    have hgt : ¬ 999999999 < n := by omega
    generalize nameB12 n = x at *
    generalize nameB12 m = y at *
    clear HG
    go_enter Tryz.func8, Tryz.ntmps8
    go_wp2_with fail
    refine k1.mono ?_
    rintro _ w1 ⟨rfl, hb1⟩
    have k2 := K2.out w1 hb1
    clear k1 K2
    go_wp2_with fail
    refine k2.mono ?_
    rintro _ w2 ⟨rfl, hb2⟩
    have HB2 : Hid (Below W.heap.size W w2) := hb1.trans (hb2.mono hb1.size)
    have k3 := HI.out w2 HB2.out
    clear k2 HI hb1 hb2
    go_wp2_with fail
    refine k3.mono ?_
    rintro _ w3 ⟨rfl, hb3⟩
    have HB3 : Hid (Below W.heap.size W w3) := HB2.out.trans (hb3.mono HB2.out.size)
    have k4 := HGd.out w3
    have k5 := HL.out w3 HB3.out
    clear k3 hb3 HGd HL
    go_wp2_with fail
    refine same_mono k4 ?_
    go_wp2_with fail
    refine k5.mono ?_
    rintro _ w4 ⟨rfl, hb4⟩
    have HB4 : Hid (Below W.heap.size W w4) := HB3.out.trans (hb4.mono HB3.out.size)
    clear k4 k5 hb4
    go_wp2
    go_ret
    exact ⟨rfl, HB4.out⟩
  · have hem := name_empty12.2 hr
    rw [hem] at k1
    generalize nameB12 m = y at *
    clear HG
    by_cases h1 : n < 1
    · go_enter Tryz.func8, Tryz.ntmps8
      go_wp2_with fail
      refine k1.mono ?_
      rintro _ w1 ⟨rfl, hb1⟩
      have k2 := K2.out w1 hb1
      clear k1 K2
      go_wp2_with fail
      refine k2.mono ?_
      rintro _ w2 ⟨rfl, hb2⟩
      have HB2 : Hid (Below W.heap.size W w2) := hb1.trans (hb2.mono hb1.size)
      have k5 := HL.out w2 HB2.out
      clear k2 hb1 hb2 HL
      go_wp2_with fail
      refine k5.mono ?_
      rintro _ w4 ⟨rfl, hb4⟩
      have HB4 : Hid (Below W.heap.size W w4) := HB2.out.trans (hb4.mono HB2.out.size)
      clear k5 hb4
      go_wp2
      go_ret
      exact ⟨rfl, HB4.out⟩
    · have h2 : 999999999 < n := by omega
      go_enter Tryz.func8, Tryz.ntmps8
      go_wp2_with fail
      refine k1.mono ?_
      rintro _ w1 ⟨rfl, hb1⟩
      have k2 := K2.out w1 hb1
      clear k1 K2
      go_wp2_with fail
      refine k2.mono ?_
      rintro _ w2 ⟨rfl, hb2⟩
      have HB2 : Hid (Below W.heap.size W w2) := hb1.trans (hb2.mono hb1.size)
      have k5 := HL.out w2 HB2.out
      clear k2 hb1 hb2 HL
      go_wp2_with fail
      refine k5.mono ?_
      rintro _ w4 ⟨rfl, hb4⟩
      have HB4 : Hid (Below W.heap.size W w4) := HB2.out.trans (hb4.mono HB2.out.size)
      clear k5 hb4
      go_wp2
      go_ret
      exact ⟨rfl, HB4.out⟩
end Go.Proofs.YtojfihfdnchkeaaGreatDoor
