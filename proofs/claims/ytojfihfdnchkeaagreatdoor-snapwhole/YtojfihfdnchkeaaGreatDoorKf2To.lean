import Derived.Test.YtojfihfdnchkeaaGreatDoorKd6To
import Derived.Test.YtojfihfdnchkeaaGreatDoorDs0To
import Derived.Lib.SlBytesConst
import Derived.Test.YtojfihfdnchkeaaGreatDoorKa4
import Derived.Test.YtojfihfdnchkeaaGreatDoorLxTo
import Derived.Test.YtojfihfdnchkeaaGreatDoorKd0To
namespace Go.Proofs.YtojfihfdnchkeaaGreatDoor
open Go.RowKit Go.Shelf Go.Maps
attribute [local go_sem ↓] ldE_exec stE_exec ldE_execI stE_execI ldC_exec stC_exec ldC_execI stC_execI ldS_exec stS_exec ldS_execI stS_execI ldS_run ldS_box ldW_exec stW_exec ldW_execI stW_execI ldR_exec stR_exec ldR_execI stR_execI ldT_exec stT_exec ldT_execI stT_execI ldU_exec stU_exec ldU_execI stU_execI ldH_exec stH_exec ldH_execI stH_execI oc_int oc_bool oc_string oc_slice oc_pointer
def plainS (i : Int) : Snap10 := ⟨i, 1, ⟨[1], []⟩, [97, 98, 99]⟩
def plainV (i : Int) (g : Nat) : SnapV := ⟨i, 1, ⟨⟨some ⟨g, 0, none⟩, 1, 1⟩, nilS10, ⟨[1], []⟩⟩, ⟨some ⟨g + 1, 0, none⟩, 3, 3⟩, [97, 98, 99]⟩
set_option maxRecDepth 100000 in
set_option maxHeartbeats 1000000 in
theorem plain_any (i : Int) (hi : inI i) (w : World) : Calls Tryz.prog 70 #[.int .i64 i] w fun e w' => e = .returned (.agg (plainV i (w.heap.size + 1)).arr) ∧ FitsS w' (plainV i (w.heap.size + 1)) ∧ Below w.heap.size w w' := by
  generalize hs : w.heap.size = s at *
  have kc := Lib.run_convert_bytes_const (P := Tryz.prog) ((w.alloc (.cells #[.int .i64 0, .int .i64 0, .slice none 0 0, .slice none 0 0, .slice none 0 0] 47)).alloc (.cells #[.int .i64 1] 3)) 38 5 #[.int .u8 97, .int .u8 98, .int .u8 99] 3 3 Tryz.underlying38 Tryz.underlying5
  obtain ⟨w3, hw3⟩ : ∃ w3, ((w.alloc (.cells #[.int .i64 0, .int .i64 0, .slice none 0 0, .slice none 0 0, .slice none 0 0] 47)).alloc (.cells #[.int .i64 1] 3)).alloc (.cells #[.int .u8 97, .int .u8 98, .int .u8 99] 5 (3, 4)) = w3 := ⟨_, rfl⟩
  have hb3 : Below s w w3 := by rw [← hw3]; exact (((Below.refl _ w).alloc (by omega) _).alloc (by simp; omega) _).alloc (by simp; omega) _
  have hz3 : w3.heap.size = s + 3 := by rw [← hw3]; simp; omega
  have r3 : w3.heap[s]? = some (.cells zeroS 47 (0, 0)) := by
    rw [← hw3, ← hs]
    exact box_below (box_below (heap_alloc_new w _) ((Below.refl _ _).alloc (Nat.le_refl _) _)) ((Below.refl _ _).alloc (Nat.le_refl _) _)
  have i3 : w3.heap[s + 1]? = some (.cells #[.int .i64 1] 3 (0, 0)) := by
    have := heap_alloc_new (w.alloc (.cells #[.int .i64 0, .int .i64 0, .slice none 0 0, .slice none 0 0, .slice none 0 0] 47)) (.cells #[.int .i64 1] 3)
    rw [World.size_alloc, hs] at this
    rw [← hw3]
    exact box_below this ((Below.refl _ _).alloc (Nat.le_refl _) _)
  have b3 : w3.heap[s + 2]? = some (.cells #[.int .u8 97, .int .u8 98, .int .u8 99] 5 (3, 4)) := by
    have := heap_alloc_new ((w.alloc (.cells #[.int .i64 0, .int .i64 0, .slice none 0 0, .slice none 0 0, .slice none 0 0] 47)).alloc (.cells #[.int .i64 1] 3)) (.cells #[.int .u8 97, .int .u8 98, .int .u8 99] 5 (3, 4))
    rw [World.size_alloc, World.size_alloc, hs] at this
    rw [← hw3]; exact this
  rw [World.size_alloc, World.size_alloc, hs] at kc
  have kc2 : (convert 38 38 (.slice (some ⟨s + 1 + 1, 0, none⟩) 3 3)).run Tryz.prog (((w.alloc (.cells #[.int .i64 0, .int .i64 0, .slice none 0 0, .slice none 0 0, .slice none 0 0] 47)).alloc (.cells #[.int .i64 1] 3)).alloc (.cells #[.int .u8 97, .int .u8 98, .int .u8 99] 5)) = .ok (.slice (some ⟨s + 1 + 1, 0, none⟩) 3 3) w3 := by rw [← hw3]; exact kc
  clear kc hw3
  have hth := there_box r3 0 5 (Nat.le_refl _)
  have hst := stS_arr (plainV i (s + 1)) hth
  have R4 : Hid ((w3.setCells s 0 (plainV i (s + 1)).arr.toList).heap[s]? = some (.cells (plainV i (s + 1)).arr 47 (0, 0))) := setS_box _ r3 rfl
  have hgr := setCells_grown s (plainV i (s + 1)).arr.toList 0 w3
  have i4 := (hgr.block (s + 1) (by omega) (by simp)).trans i3
  have b4 := (hgr.block (s + 2) (by omega) (by simp)).trans b3
  have HB4 : Hid (Below s w (w3.setCells s 0 (plainV i (s + 1)).arr.toList)) := setCells_below (Nat.le_refl _) _ _ hb3
  have HF4 : Hid (FitsS (w3.setCells s 0 (plainV i (s + 1)).arr.toList) (plainV i (s + 1))) := by
    refine ⟨hi, (show inI 1 from ⟨by decide, by decide⟩), ⟨?_, HasI.nil _, ?_, (fun _ h => by cases h), (show 1 ≤ 17592186044416 by decide), (show 0 ≤ 17592186044416 by decide)⟩, ?_, ?_, (show 3 ≤ 140737488351232 by decide)⟩
    · refine ⟨_, _, rfl, Nat.le_refl _, (fun h => by cases h), fun _ => ⟨s + 1, 0, rfl, box_lt i4, fun j hj => ?_⟩⟩
      have hj0 : j = 0 := by have : j < 1 := hj; omega
      subst hj0
      exact box_cell i4 0
    · intro z hz
      have : z = 1 := by simpa [plainV] using hz
      subst this
      exact ⟨by decide, by decide⟩
    · refine ⟨_, _, rfl, Nat.le_refl _, (fun h => by cases h), fun _ => ⟨s + 2, 0, rfl, box_lt b4, fun j hj => ?_⟩⟩
      have hj3 : j = 0 ∨ j = 1 ∨ j = 2 := by have : j < 3 := hj; omega
      rcases hj3 with rfl | rfl | rfl
      · exact box_cell b4 0
      · exact box_cell b4 1
      · exact box_cell b4 2
    · intro z hz
      have : z = 97 ∨ z = 98 ∨ z = 99 := by simpa [plainV] using hz
      omega
  have lr := box_lt r3
  clear hb3 i3 b3 i4 b4 hgr r3
  unfold plainV SnapV.arr nilS10 at hst
  dsimp only at hst
  go_enter Tryz.func70, Tryz.ntmps70
  go_wp2
  refine bodyPost_ret (ret_one rfl _ _ s _ _ _ _ rfl R4.out Tryz.underlying47 rfl (by kernel_rfl)) rfl ⟨rfl, HF4.out, HB4.out⟩
theorem okN_save12 {M : DM} {c : Nat} (h : M.OkN c) {s : Snap10} (hB : IsB s.d) : (save12 M s).2.OkN (c + 16777700) := by
  unfold save12
  split
  · exact h.mono (by omega)
  · split
    · rename_i hg
      have hfw := good_few hg.1
      have hf : FewF s.f := ⟨by omega, by omega⟩
      have o4 := st12_ok h hB hf hfw.2.2 4 (Nat.le_refl _)
      have o4' : (sav4 M s).2.OkN (c + 400) := o4
      unfold sav5
      split
      · have hl : (files12 (sav4 M s).2.listT).reverse.length ≤ 16777216 := by
          rw [List.length_reverse]
          refine Nat.le_trans (files12_len _) ?_
          unfold DM.listT
          split
          · exact Nat.zero_le _
          · show (nms (sav4 M s).2.L).length ≤ _
            unfold nms
            rw [List.length_map]
            exact o4'.inv.count
        exact (okN_drop12 _ _ o4').mono (by omega)
      · exact o4'.mono (by omega)
    · exact h.mono (by omega)
theorem HasT8.of_row12 {w w' : World} {B : Nat} {v : Value} {xs : List ByteArray} (h : w.ownsRow B 9 1 v xs.length (textsV8 xs)) (hb : Below w.heap.size w w') : HasT8 w' v xs := by
  rcases h.2 with ⟨rfl, hn⟩ | ⟨g, cap, cur, rfl, hB, hg, hnc, _, _, _⟩
  · exact ⟨none, 0, by rw [hn], by omega, fun _ => rfl, fun h0 => by omega⟩
  · refine ⟨some ⟨g, 0, none⟩, cap, rfl, hnc, (fun h0 => by cases h0), fun _ => ⟨g, 0, rfl, Nat.lt_of_lt_of_le (box_lt hg) hb.size, fun i hi => ?_⟩⟩
    have hc := World.ownsRow.cells h (g := g) rfl i (.string (xs.getD i ByteArray.empty)) (by simp [textsV8, hi, List.getD_eq_getElem?_getD])
    rw [Addr.add_lit] at hc
    exact (hb.cell (p := ⟨g, 0 + i, none⟩) (box_lt hg)).trans hc
def lS1 : DM := (save12 (DM.empty 5000) (plainS 5)).2
def lS2 : DM := (save12 lS1 (plainS 9)).2
set_option maxRecDepth 100000 in
theorem lS_errs : (save12 (DM.empty 5000) (plainS 5)).1 = 0 ∧ (save12 lS1 (plainS 9)).1 = 0 := by decide +kernel
set_option maxRecDepth 100000 in
theorem lS_load : (lod12 lS2).1.i = 9 ∧ (lod12 lS2).2.1 = true ∧ (lod12 lS2).2.2 = 0 := by decide +kernel
set_option maxRecDepth 100000 in
theorem lS_list : lS2.listT = [⟨#[115, 110, 97, 112, 45, 57]⟩] := by decide +kernel
theorem plain_isB (i : Int) : IsB (plainS i).d := by
  intro z hz
  have : z = 97 ∨ z = 98 ∨ z = 99 := by simpa [plainS] using hz
  omega
theorem lS_ok1 : lS1.OkN 16777700 := by
  have := okN_save12 (okN_empty 5000 (by decide)) (plain_isB 5)
  rw [Nat.zero_add] at this
  exact this
theorem lS_ok2 : lS2.OkN (16777700 + 16777700) := okN_save12 lS_ok1 (plain_isB 9)
theorem plain_in (i : Int) (g : Nat) {k : Nat} (h : inSn (plainV i g) k) : g ≤ k := by
  rcases h with h | h | h
  · obtain ⟨-, a, ha, rfl⟩ := h
    have : a = ⟨g, 0, none⟩ := by simpa [plainV] using ha.symm
    rw [this]
    exact Nat.le_refl _
  · exact absurd h.1 (Nat.lt_irrefl 0)
  · obtain ⟨-, a, ha, rfl⟩ := h
    have : a = ⟨g + 1, 0, none⟩ := by simpa [plainV] using ha.symm
    rw [this]
    exact Nat.le_succ _

set_option maxRecDepth 100000 in
set_option maxHeartbeats 1000000 in
theorem livesS_any (W : World) (h0 : Gl11 W) : Calls Tryz.prog 17 #[] W fun e w' => e = .returned (.bool true) ∧ Below W.heap.size W w' := by
  have kn := Disk8.new 5000 W W (by decide) (Below.refl _ _)
  have HG : Hid (Gl11 W) := h0
  clear h0
  go_enter Tryz.func17, Tryz.ntmps17
  go_wp2_with fail
  refine kn.mono ?_
  rintro _ w1 ⟨rfl, hd1, -⟩
  generalize W.heap.size + 1 = d at *
  generalize (fun k => W.heap.size ≤ k ∧ k < w1.heap.size) = S1 at *
  have kp := plain_any 5 ⟨by decide, by decide⟩ w1
  have hz1 : ∀ k, S1 k → k < w1.heap.size := fun k hk => (hd1.own k hk).2
  clear kn
  go_wp2_with fail
  refine kp.mono ?_
  rintro _ w2 ⟨rfl, hF2, hb2⟩
  have ks := saveS_any (hd1.below hb2) HG.out (okN_empty 5000 (by decide)) (by decide) (plainV 5 (w1.heap.size + 1)) hF2 (fun k hk hs => by have := plain_in _ _ hk; have := hz1 k hs; omega) (show 3 ≤ 1048576 by decide)
  have e1 : (save12 (DM.empty 5000) (plainV 5 (w1.heap.size + 1)).s).1 = 0 := lS_errs.1
  rw [e1] at ks
  have ks2 := ks.mono (R' := fun e w' => e = .returned (.int .i64 0) ∧ Hid (∃ S, Disk8 W w' d S lS1)) fun e w' he => ⟨he.1, _, he.2.1⟩
  generalize (plainV 5 (w1.heap.size + 1)).arr = pa at *
  clear kp ks e1 hF2 hd1 hz1 hb2
  go_wp2_with fail
  refine ks2.mono ?_
  rintro _ w3 ⟨rfl, hS3⟩
  obtain ⟨S3, hd3⟩ := hS3.out
  have kp := plain_any 9 ⟨by decide, by decide⟩ w3
  have hz3 : ∀ k, S3 k → k < w3.heap.size := fun k hk => (hd3.own k hk).2
  clear ks2 hS3
  go_wp2_with fail
  refine kp.mono ?_
  rintro _ w4 ⟨rfl, hF4, hb4⟩
  have ks := saveS_any (hd3.below hb4) HG.out lS_ok1 (by decide) (plainV 9 (w3.heap.size + 1)) hF4 (fun k hk hs => by have := plain_in _ _ hk; have := hz3 k hs; omega) (show 3 ≤ 1048576 by decide)
  have e1 : (save12 lS1 (plainV 9 (w3.heap.size + 1)).s).1 = 0 := lS_errs.2
  rw [e1] at ks
  have ks2 := ks.mono (R' := fun e w' => e = .returned (.int .i64 0) ∧ Hid (∃ S, Disk8 W w' d S lS2)) fun e w' he => ⟨he.1, _, he.2.1⟩
  generalize (plainV 9 (w3.heap.size + 1)).arr = pb at *
  clear kp ks e1 hF4 hd3 hz3 hb4
  go_wp2_with fail
  refine ks2.mono ?_
  rintro _ w5 ⟨rfl, hS5⟩
  obtain ⟨S5, hd5⟩ := hS5.out
  have kl := loadS_any hd5 HG.out lS_ok2.inv
  obtain ⟨g1, g2, g3⟩ := lS_load
  have HYi : Hid ((lod12 lS2).1.i = 9) := g1
  rw [g2, g3] at kl
  clear ks2 hS5 g1 g2 g3
  go_wp2_with fail
  refine kl.mono ?_
  rintro _ w6 ⟨Y, rfl, hY, hO, hb6⟩
  have hbx := heap_alloc_new w6 (.cells #[.int .i64 0, .int .i64 0, .slice none 0 0, .slice none 0 0, .slice none 0 0] 47)
  have hth := there_box hbx 0 5 (Nat.le_refl _)
  have hst := stS_arr Y hth
  have hb7 : Below w6.heap.size w6 ((w6.alloc (.cells #[.int .i64 0, .int .i64 0, .slice none 0 0, .slice none 0 0, .slice none 0 0] 47)).setCells w6.heap.size 0 Y.arr.toList) := setCells_below (Nat.le_refl _) _ _ ((Below.refl _ _).alloc (Nat.le_refl _) _)
  have hy7 : SnapAt ((w6.alloc (.cells #[.int .i64 0, .int .i64 0, .slice none 0 0, .slice none 0 0, .slice none 0 0] 47)).setCells w6.heap.size 0 Y.arr.toList) w6.heap.size Y := setS_box Y hbx rfl
  have cy : ((w6.alloc (.cells #[.int .i64 0, .int .i64 0, .slice none 0 0, .slice none 0 0, .slice none 0 0] 47)).setCells w6.heap.size 0 Y.arr.toList).cell? ⟨w6.heap.size, 0, none⟩ = some (.int .i64 9) := by
    rw [(SnapAt.cells hy7).1, ← HYi.out, ← hY]
    rfl
  have ly := box_lt hy7
  have hd7 := (hd5.below hb6).below hb7
  have kL := list_any hd7.at8 lS_ok2.inv
  rw [lS_list] at kL
  have HB7 : Hid (Below W.heap.size W ((w6.alloc (.cells #[.int .i64 0, .int .i64 0, .slice none 0 0, .slice none 0 0, .slice none 0 0] 47)).setCells w6.heap.size 0 Y.arr.toList)) := hd7.bel
  clear kl hbx hth hb7 hy7 hd7 hd5 hb6 hO hY
  go_wp2_with fail
  refine kL.mono ?_
  rintro _ w8 ⟨⟨v8, rfl, ho8⟩, hb8⟩
  have hb9 : Below w8.heap.size w8 (w8.alloc (.cells #[.string ⟨#[115, 110, 97, 112, 45, 57]⟩] 9)) := (Below.refl _ _).alloc (Nat.le_refl _) _
  have hB9 := heap_alloc_new w8 (.cells #[.string ⟨#[115, 110, 97, 112, 45, 57]⟩] 9)
  have kt := texts8 v8 (.slice (some ⟨w8.heap.size, 0, none⟩) 1 1) [⟨#[115, 110, 97, 112, 45, 57]⟩] [⟨#[115, 110, 97, 112, 45, 57]⟩] (w8.alloc (.cells #[.string ⟨#[115, 110, 97, 112, 45, 57]⟩] 9)) (HasT8.of_row12 ho8 hb9) ⟨_, _, rfl, Nat.le_refl _, (fun h => by cases h), fun _ => ⟨w8.heap.size, 0, rfl, box_lt hB9, fun i hi => by
    have hi0 : i = 0 := by have : i < 1 := hi; omega
    subst hi0
    exact box_cell hB9 0⟩⟩ (by decide) (by decide)
  rw [decide_eq_true rfl] at kt
  have HB8 : Hid (Below W.heap.size W (w8.alloc (.cells #[.string ⟨#[115, 110, 97, 112, 45, 57]⟩] 9))) := HB7.out.trans ((hb8.trans (hb9.mono hb8.size)).mono HB7.out.size)
  clear kL ho8 hb8 hb9 hB9 cy hst
  go_wp2_with fail
  refine kt.mono ?_
  rintro _ w9 ⟨rfl, hb9⟩
  have HB9 : Hid (Below W.heap.size W w9) := HB8.out.trans (hb9.mono HB8.out.size)
  clear kt hb9
  go_wp2
  go_ret
  exact ⟨rfl, HB9.out⟩
theorem livesS_all {w : World} (h : Gl11 w) : ∀ V, Below w.heap.size w V → Calls Tryz.prog 17 #[] V fun e w' => e = .returned (.bool true) ∧ Below V.heap.size V w' := fun V hb => livesS_any V (h.below hb (Nat.le_refl _))
end Go.Proofs.YtojfihfdnchkeaaGreatDoor

namespace Go.Proofs.YtojfihfdnchkeaaGreatDoor
open Go.RowKit
section
variable {M : DM}
theorem create_done (h : M.Inv) (e : (M.create newB12).1 = 0) : newB12 ∈ (M.create newB12).2.names ∧ (M.create newB12).2.bytes newB12 = [] := by
  unfold DM.create at e ⊢
  by_cases ho : M.off = true
  · rw [if_pos ho] at e; cases e
  rw [if_neg ho] at e ⊢
  by_cases hg : goodN newB12 = false
  · rw [if_pos hg] at e; cases e
  rw [if_neg hg] at e ⊢
  unfold DM.act at e ⊢
  by_cases hb : M.begins = true
  · rw [if_pos hb] at e ⊢
    obtain ⟨-, e2, e3, -⟩ := DM.begun_off hb
    unfold DM.create1 at e ⊢
    dsimp only at e ⊢
    have hI := h.begun
    by_cases hx : newB12 ∈ M.begun.names
    · rw [if_pos hx]
      refine ⟨(DM.names_put _ _ _ _).2 (.inl rfl), ?_⟩
      show lk (insF newB12 [] (M.begun.gone newB12).L) newB12 ++ pend (M.begun.gone newB12).buf newB12 = []
      rw [lk_ins (gone_not12 M.begun), if_pos rfl, List.nil_append]
      exact pend_none fun w hw => of_decide_eq_true (List.mem_filter.1 hw).2
    · rw [if_neg hx] at e ⊢
      by_cases hf : M.begun.blocks ≤ M.begun.used
      · rw [if_pos hf] at e; cases e
      · rw [if_neg hf]
        refine ⟨(DM.names_put _ _ _ _).2 (.inl rfl), ?_⟩
        show lk (insF newB12 [] M.begun.L) newB12 ++ pend M.begun.buf newB12 = []
        rw [lk_ins hx, if_pos rfl, List.nil_append]
        exact pend_none fun w hw he => hx (by rw [← he]; exact hI.mem w hw)
  · rw [if_neg hb] at e; cases e
theorem append_done {x : ByteArray} {b : List Int} (e : (M.append x b).1 = 0) (hx : x ∈ M.names) : x ∈ (M.append x b).2.names ∧ (M.append x b).2.bytes x = M.bytes x ++ b := by
  unfold DM.append at e ⊢
  by_cases ho : M.off = true
  · rw [if_pos ho] at e; cases e
  rw [if_neg ho, if_neg (fun h => h hx)] at e ⊢
  unfold DM.act at e ⊢
  by_cases hb : M.begins = true
  · rw [if_pos hb] at e ⊢
    obtain ⟨-, e2, e3, -⟩ := DM.begun_off hb
    unfold DM.append1 at e ⊢
    dsimp only at e ⊢
    by_cases hf : M.begun.blocks - M.begun.used < M.begun.more x b
    · rw [if_pos hf] at e; cases e
    · rw [if_neg hf]
      refine ⟨?_, ?_⟩
      · show x ∈ nms M.begun.L
        rw [e2]; exact hx
      · show lk M.begun.L x ++ pend (M.begun.buf ++ [(x, b)]) x = _
        rw [e2, e3, pend_append, pend, if_pos rfl]
        unfold DM.bytes
        simp [pend]
  · rw [if_neg hb] at e; cases e
theorem app_done (x : ByteArray) (l : List (List Int)) : ∀ {M : DM}, x ∈ M.names → (app12 x M l).1 = 0 → x ∈ (app12 x M l).2.names ∧ (app12 x M l).2.bytes x = M.bytes x ++ l.flatten := by
  induction l with
  | nil => intro M hx _; exact ⟨hx, by show M.bytes x = M.bytes x ++ []; rw [List.append_nil]⟩
  | cons b l ih =>
    intro M hx e
    unfold app12 at e ⊢
    by_cases h0 : (M.append x b).1 = 0
    · rw [if_pos h0] at e ⊢
      obtain ⟨a1, a2⟩ := append_done h0 hx
      obtain ⟨b1, b2⟩ := ih a1 e
      exact ⟨b1, by rw [b2, a2, List.flatten_cons, List.append_assoc]⟩
    · rw [if_neg h0] at e
      exact absurd e h0
theorem syncs_done (e : M.syncs.1 = 0) {x : ByteArray} (hx : x ∈ M.names) : x ∈ M.syncs.2.names ∧ M.syncs.2.buf = [] ∧ M.syncs.2.bytes x = M.bytes x := by
  unfold DM.syncs at e ⊢
  by_cases ho : M.off = true
  · rw [if_pos ho] at e; cases e
  rw [if_neg ho] at e ⊢
  unfold DM.act at e ⊢
  by_cases hb : M.begins = true
  · rw [if_pos hb] at e ⊢
    obtain ⟨-, e2, e3, -⟩ := DM.begun_off hb
    refine ⟨?_, rfl, ?_⟩
    · show x ∈ nms (M.begun.L.map fun f => (f.1, f.2 ++ pend M.begun.buf f.1))
      rw [DM.nms_map, e2]; exact hx
    · show lk (M.begun.L.map fun f => (f.1, f.2 ++ pend M.begun.buf f.1)) x ++ [] = _
      rw [List.append_nil, e2, e3, DM.lk_map (fun y => pend M.buf y) hx]
      rfl
  · rw [if_neg hb] at e; cases e
theorem sav3_done (h : M.Inv) {s : Snap10} (e : (sav3 M s).1 = 0) : (sav3 M s).2.buf = [] ∧ (sav3 M s).2.bytes newB12 = whole12 s := by
  unfold sav3 at e ⊢
  by_cases h2 : (sav2 M s).1 = 0
  · rw [if_pos h2] at e ⊢
    unfold sav2 at h2
    by_cases h1 : (sav1 M).1 = 0
    · rw [if_pos h1] at h2
      have e2 : sav2 M s = app12 newB12 (sav1 M).2 (chunks12 s) := by unfold sav2; rw [if_pos h1]
      obtain ⟨a1, a2⟩ := create_done h h1
      obtain ⟨b1, b2⟩ := app_done newB12 (chunks12 s) (M := (sav1 M).2) a1 h2
      rw [e2] at e ⊢
      obtain ⟨-, c2, c3⟩ := syncs_done e b1
      refine ⟨c2, ?_⟩
      have e1 : sav1 M = M.create newB12 := by unfold sav1; rfl
      rw [c3, b2, e1, a2, List.nil_append]
      unfold whole12
      rfl
    · rw [if_neg h1] at h2
      exact absurd h2 h1
  · rw [if_neg h2] at e
    exact absurd e h2
variable {C : Int → Option (List Int)}
theorem SnapIs.sav3 (h : SnapIs M C) (s : Snap10) : SnapIs (sav3 M s).2 C := by
  have h1 : SnapIs (sav1 M).2 C := h.create
  have h2 : SnapIs (sav2 M s).2 C := by
    unfold sav2
    split
    · exact h1.app _
    · exact h1
  unfold Go.Proofs.YtojfihfdnchkeaaGreatDoor.sav3
  split
  · exact h2.syncs
  · exact h2
structure Less12 (i : Int) (C D : Int → Option (List Int)) : Prop where
  up : ∀ n, i ≤ n → D n = C n
  down : ∀ n, n < i → D n = C n ∨ D n = none
theorem Less12.refl (i : Int) (C : Int → Option (List Int)) : Less12 i C C := ⟨fun _ _ => rfl, fun _ _ => .inl rfl⟩
theorem Less12.put {i a : Int} {C D : Int → Option (List Int)} (h : Less12 i C D) (ha : a < i) : Less12 i C (put12 D a none) := by
  refine ⟨fun n hn => ?_, fun n hn => ?_⟩
  · unfold put12
    rw [if_neg (by omega)]
    exact h.up n hn
  · unfold put12
    split
    · exact .inr rfl
    · exact h.down n hn
theorem SnapIs.drop {i : Int} {D : Int → Option (List Int)} (l : List Int) : ∀ {M : DM} {C : Int → Option (List Int)}, SnapIs M C → Less12 i D C → (∀ a ∈ l, 1 ≤ a ∧ a ≤ 999999999) → ∃ C', SnapIs (drop12 i M l).2 C' ∧ Less12 i D C' := by
  induction l with
  | nil => intro M C h hl _; exact ⟨C, h, hl⟩
  | cons a l ih =>
    intro M C h hl ha
    have ha1 := ha a (List.mem_cons_self ..)
    have har : ∀ b ∈ l, 1 ≤ b ∧ b ≤ 999999999 := fun b hb => ha b (List.mem_cons_of_mem _ hb)
    rw [drop12_cons]
    by_cases hlt : a < i
    · rw [if_pos hlt]
      have hr : ∃ C', SnapIs (M.remove (nameB12 a)).2 C' ∧ Less12 i D C' := (h.remove ha1.1 ha1.2).elim (fun hr => ⟨_, hr, hl⟩) fun hr => ⟨_, hr, hl.put hlt⟩
      obtain ⟨C', hr1, hr2⟩ := hr
      split
      · exact ⟨C', hr1, hr2⟩
      · exact ih hr1 hr2 har
    · rw [if_neg hlt]
      exact ih h hl har
theorem SnapIs.save (h : SnapIs M C) (hI : M.Inv) (s : Snap10) : (SnapIs (save12 M s).2 C ∧ (save12 M s).1 ≠ 0) ∨ (goodS10 s = true ∧ s.i ≤ 999999999 ∧ (∃ C', SnapIs (save12 M s).2 C' ∧ Less12 s.i (put12 C s.i (some (whole12 s))) C') ∧ ((save12 M s).1 = 0 ∨ (save12 M s).1 = 9)) := by
  unfold save12
  by_cases ho : M.off = true
  · rw [if_pos ho]; exact .inl ⟨h, fun hh => by cases hh⟩
  rw [if_neg ho]
  by_cases hg : goodS10 s = true ∧ s.i ≤ 999999999
  · rw [if_pos hg]
    have h1 : 1 ≤ s.i := by
      have := hg.1
      unfold goodS10 at this
      simp only [Bool.and_eq_true, decide_eq_true_eq] at this
      exact this.1.1.1
    have h3 := h.sav3 s
    have e5 : sav5 M s = if (sav4 M s).1 = 0 then drop12 s.i (sav4 M s).2 (files12 (sav4 M s).2.listT).reverse else sav4 M s := rfl
    by_cases z3 : (Go.Proofs.YtojfihfdnchkeaaGreatDoor.sav3 M s).1 = 0
    · obtain ⟨b1, b2⟩ := sav3_done hI z3
      have e4 : sav4 M s = (Go.Proofs.YtojfihfdnchkeaaGreatDoor.sav3 M s).2.rename newB12 (nameB12 s.i) := by unfold sav4; rw [if_pos z3]
      have h4 := h3.rename b1 h1 hg.2
      rw [← e4, b2] at h4
      by_cases z4 : (sav4 M s).1 = 0
      · rw [if_pos z4] at h4
        rw [e5, if_pos z4]
        right
        have hm : ∀ a ∈ (files12 (sav4 M s).2.listT).reverse, 1 ≤ a ∧ a ≤ 999999999 := fun a ha => by
          obtain ⟨a1, a2, -⟩ := files12_mem (List.mem_reverse.1 ha)
          exact ⟨a1, a2⟩
        exact ⟨hg.1, hg.2, SnapIs.drop _ h4 (Less12.refl _ _) hm, drop12_two _ _ _⟩
      · rw [if_neg z4] at h4
        rw [e5, if_neg z4]
        exact .inl ⟨h4, z4⟩
    · have e4 : sav4 M s = Go.Proofs.YtojfihfdnchkeaaGreatDoor.sav3 M s := by unfold sav4; rw [if_neg z3]
      rw [e5, e4, if_neg z3]
      exact .inl ⟨h3, z3⟩
  · rw [if_neg hg]; exact .inl ⟨h, fun hh => by cases hh⟩
end
section
variable {M : DM}
theorem act_quiet12 (hn : M.n = 0) (f : DM → Nat × DM) : M.act f = f { M with ops := M.ops + 1 } := by
  have hb : M.begins = true := by unfold DM.begins; rw [hn]; rfl
  have e : M.begun = { M with ops := M.ops + 1 } := by
    unfold DM.begun
    rw [if_neg (by omega), hn]
  unfold DM.act
  rw [if_pos hb, e]
structure Easy12 (M : DM) : Prop where
  off : M.off = false
  n : M.n = 0
  blocks : M.blocks = 1048576
  inv : M.Inv
  mem : newB12 ∈ M.names
  used : M.used = need (M.bytes newB12).length
theorem Easy12.append (h : Easy12 M) {b : List Int} (hb : isB8 b) (hl : (M.bytes newB12).length + b.length ≤ 60000000) : (M.append newB12 b).1 = 0 ∧ Easy12 (M.append newB12 b).2 ∧ (M.append newB12 b).2.bytes newB12 = M.bytes newB12 ++ b := by
  have hI := h.inv.append newB12 hb
  have hu := DM.used_append h.inv h.mem b
  have hm : M.more newB12 b = need ((M.bytes newB12).length + b.length) - need (M.bytes newB12).length := rfl
  have hle : need (M.bytes newB12).length ≤ need ((M.bytes newB12).length + b.length) := need_mono (by omega)
  have htop : need ((M.bytes newB12).length + b.length) ≤ 1048576 := by unfold need; omega
  have e : M.append newB12 b = (0, { M with ops := M.ops + 1, buf := M.buf ++ [(newB12, b)] }) := by
    unfold DM.append
    rw [if_neg (by rw [h.off]; decide), if_neg (fun hh => hh h.mem), act_quiet12 h.n]
    unfold DM.append1
    refine if_neg ?_
    show ¬ (M.blocks - M.used < M.more newB12 b)
    have := h.used
    have := h.blocks
    omega
  have hd : (M.append newB12 b).1 = 0 := by rw [e]
  obtain ⟨d1, d2⟩ := append_done hd h.mem
  refine ⟨hd, ⟨by rw [e]; exact h.off, by rw [e]; exact h.n, by rw [e]; exact h.blocks, hI, d1, ?_⟩, d2⟩
  rw [d2, List.length_append]
  have hu2 : (M.append newB12 b).2.used = M.used + M.more newB12 b := by rw [e]; exact hu
  have := h.used
  omega
theorem Easy12.app (l : List (List Int)) : ∀ {M : DM}, Easy12 M → (∀ b ∈ l, isB8 b) → (M.bytes newB12).length + l.flatten.length ≤ 60000000 → (app12 newB12 M l).1 = 0 ∧ Easy12 (app12 newB12 M l).2 := by
  induction l with
  | nil => intro M h _ _; exact ⟨rfl, h⟩
  | cons b l ih =>
    intro M h hb hl
    rw [List.flatten_cons, List.length_append] at hl
    obtain ⟨a1, a2, a3⟩ := h.append (hb b (List.mem_cons_self ..)) (by omega)
    unfold app12
    rw [if_pos a1]
    refine ih a2 (fun c hc => hb c (List.mem_cons_of_mem _ hc)) ?_
    rw [a3, List.length_append]
    omega
theorem remove_quiet12 (ho : M.off = false) (hn : M.n = 0) (x : ByteArray) : (M.remove x).1 ≠ 9 ∧ (M.remove x).2.off = false ∧ (M.remove x).2.n = 0 := by
  unfold DM.remove
  rw [if_neg (by rw [ho]; decide)]
  by_cases hx : x ∉ M.names
  · rw [if_pos hx]; exact ⟨(fun hh => by cases hh), ho, hn⟩
  · rw [if_neg hx, act_quiet12 hn]; exact ⟨(fun hh => by cases hh), ho, hn⟩
theorem drop_quiet12 (i : Int) (l : List Int) : ∀ {M : DM}, M.off = false → M.n = 0 → (drop12 i M l).1 = 0 := by
  induction l with
  | nil => intro M _ _; rfl
  | cons a l ih =>
    intro M ho hn
    obtain ⟨r1, r2, r3⟩ := remove_quiet12 ho hn (nameB12 a)
    rw [drop12_cons]
    by_cases hlt : a < i
    · rw [if_pos hlt, if_neg r1]; exact ih r2 r3
    · rw [if_neg hlt]; exact ih ho hn
theorem goodN_new12 : goodN newB12 = true := by decide +kernel
theorem create_empty12 : (DM.empty 1048576).create newB12 = (0, ⟨1048576, [(newB12, [])], [], false, 1, 0, 0⟩) := by
  unfold DM.create
  rw [if_neg (by decide), if_neg (by rw [goodN_new12]; decide), act_quiet12 rfl]
  unfold DM.create1
  rw [if_neg (fun h => by cases h), if_neg (by decide)]
  rfl
theorem easy_empty12 : Easy12 (sav1 (DM.empty 1048576)).2 := by
  have hI : ((DM.empty 1048576).create newB12).2.Inv := (DM.inv_empty8 1048576 (by decide)).create newB12
  unfold sav1
  rw [create_empty12] at hI ⊢
  exact ⟨rfl, rfl, rfl, hI, List.mem_cons_self .., by decide +kernel⟩
theorem first_zero12 {a : Snap10} (hB : IsB a.d) (hgN : ∀ i, 1 ≤ i → i ≤ 999999999 → goodN (nameB12 i) = true) : (save12 (DM.empty 1048576) a).1 = 0 ↔ goodS10 a = true ∧ a.i ≤ 999999999 := by
  unfold save12
  rw [if_neg (by decide)]
  by_cases hg : goodS10 a = true ∧ a.i ≤ 999999999
  · rw [if_pos hg]
    refine ⟨fun _ => hg, fun _ => ?_⟩
    have h1 : 1 ≤ a.i := by
      have := hg.1
      unfold goodS10 at this
      simp only [Bool.and_eq_true, decide_eq_true_eq] at this
      exact this.1.1.1
    have hfw := good_few hg.1
    have hf : FewF a.f := ⟨by omega, by omega⟩
    have hsb := snapB_big hf hfw.2.2
    have hwl := whole_len a
    have hhl := head_len a (snapB a)
    have hnp : npiece12 (snapB a) ≤ 1000 := by unfold npiece12; omega
    have hlen : (chunks12 a).flatten.length ≤ 1200000 := by
      show (whole12 a).length ≤ _
      omega
    have z1 : (sav1 (DM.empty 1048576)).1 = 0 := by unfold sav1; rw [create_empty12]
    have hb1 : (sav1 (DM.empty 1048576)).2.bytes newB12 = [] := by unfold sav1; rw [create_empty12]; decide +kernel
    obtain ⟨a1, a2⟩ := Easy12.app (chunks12 a) easy_empty12 (chunks_isB12 hB) (by rw [hb1, List.length_nil]; omega)
    have e2 : sav2 (DM.empty 1048576) a = app12 newB12 (sav1 (DM.empty 1048576)).2 (chunks12 a) := by unfold sav2; rw [if_pos z1]
    rw [← e2] at a1 a2
    have e3 : sav3 (DM.empty 1048576) a = (sav2 (DM.empty 1048576) a).2.syncs := by unfold sav3; rw [if_pos a1]
    have e3' : (sav2 (DM.empty 1048576) a).2.syncs = (0, DM.sync { (sav2 (DM.empty 1048576) a).2 with ops := (sav2 (DM.empty 1048576) a).2.ops + 1 }) := by
      unfold DM.syncs
      rw [if_neg (by rw [a2.off]; decide), act_quiet12 a2.n]
    have z3 : (sav3 (DM.empty 1048576) a).1 = 0 := by rw [e3, e3']
    have m3 : newB12 ∈ (sav3 (DM.empty 1048576) a).2.names := by rw [e3]; exact (syncs_done (by rw [e3']) a2.mem).1
    have o3 : (sav3 (DM.empty 1048576) a).2.off = false ∧ (sav3 (DM.empty 1048576) a).2.n = 0 := by rw [e3, e3']; exact ⟨a2.off, a2.n⟩
    have e4 : sav4 (DM.empty 1048576) a = (sav3 (DM.empty 1048576) a).2.rename newB12 (nameB12 a.i) := by unfold sav4; rw [if_pos z3]
    generalize (sav3 (DM.empty 1048576) a).2 = N at *
    have e4' : N.rename newB12 (nameB12 a.i) = (0, DM.rename1 { N with ops := N.ops + 1 } newB12 (nameB12 a.i)) := by
      unfold DM.rename
      rw [if_neg (by rw [o3.1]; decide), if_neg (by rw [hgN _ h1 hg.2]; decide), if_neg (fun hh => hh m3), act_quiet12 o3.2]
    have o4 : (N.rename newB12 (nameB12 a.i)).2.off = false ∧ (N.rename newB12 (nameB12 a.i)).2.n = 0 := by
      rw [e4']
      unfold DM.rename1
      split
      · exact o3
      · exact o3
    rw [e4'] at e4 o4
    unfold sav5
    rw [e4, if_pos rfl]
    exact drop_quiet12 _ _ o4.1 o4.2
  · rw [if_neg hg]
    exact ⟨fun h => (by cases h), fun h => absurd h hg⟩
theorem snapIs_empty12 (k : Nat) : SnapIs (DM.empty k) fun _ => none := ⟨fun w hw => (by cases hw), fun n _ _ => ⟨fun h => (by cases h), fun h => (by cases h)⟩, fun n bs _ _ h => by cases h⟩
end
def wA12 (a : Snap10) : DM := (save12 (DM.empty 1048576) a).2
def wB12 (a : Snap10) (n k : Int) : DM := ((wA12 a).arm n k).2
def wC12 (a b : Snap10) (n k : Int) : DM := (save12 (wB12 a n k) b).2
def wD12 (a b : Snap10) (n k : Int) : DM := if (wC12 a b n k).off = true then wC12 a b n k else (wC12 a b n k).crash k
def wE12 (a b : Snap10) (n k : Int) : DM := (wD12 a b n k).start
def In12 (s : Snap10) : Prop := inI s.i ∧ inI s.t ∧ inL s.f.vs ∧ inL s.f.ls ∧ IsB s.d
theorem whole_is12 {a b : Snap10} (ha : In12 a) (hb : In12 b) (n k : Int) (hgN : ∀ i, 1 ≤ i → i ≤ 999999999 → goodN (nameB12 i) = true) (hI2 : (wB12 a n k).Inv) :
    (load12 (wE12 a b n k) = none ∧ (save12 (DM.empty 1048576) a).1 ≠ 0 ∧ (save12 (wB12 a n k) b).1 ≠ 0) ∨
    (load12 (wE12 a b n k) = some a ∧ (save12 (DM.empty 1048576) a).1 = 0 ∧ ((save12 (wB12 a n k) b).1 ≠ 0 ∨ b.i < a.i)) ∨
    (load12 (wE12 a b n k) = some b ∧ ((save12 (wB12 a n k) b).1 = 0 ∨ (save12 (wB12 a n k) b).1 = 9)) := by
  have hz := first_zero12 ha.2.2.2.2 hgN
  have hoE : (wE12 a b n k).off = false := rfl
  have hE : ∀ C, SnapIs (wC12 a b n k) C → SnapIs (wE12 a b n k) C := fun C h => by
    have hD : SnapIs (wD12 a b n k) C := by
      unfold wD12
      split
      · exact h
      · exact h.crash k
    exact hD.start
  -- behind the first one
  have h1 : (SnapIs (wA12 a) (fun _ => none) ∧ (save12 (DM.empty 1048576) a).1 ≠ 0) ∨ (goodS10 a = true ∧ a.i ≤ 999999999 ∧ (save12 (DM.empty 1048576) a).1 = 0 ∧ ∃ C, SnapIs (wA12 a) C ∧ C a.i = some (whole12 a) ∧ ∀ m, m ≠ a.i → C m = none) := by
    rcases (snapIs_empty12 1048576).save (DM.inv_empty8 1048576 (by decide)) a with h | ⟨g1, g2, ⟨C, c1, c2⟩, -⟩
    · exact .inl h
    · refine .inr ⟨g1, g2, hz.2 ⟨g1, g2⟩, C, c1, ?_, fun m hm => ?_⟩
      · rw [c2.up a.i (Int.le_refl _)]
        unfold put12
        rw [if_pos rfl]
      · have hp : put12 (fun _ => none) a.i (some (whole12 a)) m = none := by unfold put12; rw [if_neg hm]
        by_cases hlt : m < a.i
        · rcases c2.down m hlt with e | e
          · rw [e, hp]
          · exact e
        · rw [c2.up m (by omega), hp]
  rcases h1 with ⟨h1, z1⟩ | ⟨ga1, ga2, z1, C, c1, c2, c3⟩
  · have h2 : SnapIs (wB12 a n k) (fun _ => none) := h1.arm n k
    rcases h2.save hI2 b with ⟨h3, z3⟩ | ⟨gb1, gb2, ⟨D, d1, d2⟩, z3⟩
    · exact .inl ⟨(hE _ h3).load_none fun _ _ _ => rfl, z1, z3⟩
    · refine .inr (.inr ⟨(hE _ d1).load hoE gb1 (good_short gb1 hb.1 hb.2.1 hb.2.2.1 hb.2.2.2.1) gb2 ?_ ?_, z3⟩)
      · rw [d2.up b.i (Int.le_refl _)]
        unfold put12
        rw [if_pos rfl]
      · intro m _ _ hm
        by_cases hle : m ≤ b.i
        · exact hle
        · rw [d2.up m (by omega)] at hm
          unfold put12 at hm
          rw [if_neg (by omega)] at hm
          cases hm
  · have h2 : SnapIs (wB12 a n k) C := c1.arm n k
    have hsa := good_short ga1 ha.1 ha.2.1 ha.2.2.1 ha.2.2.2.1
    rcases h2.save hI2 b with ⟨h3, z3⟩ | ⟨gb1, gb2, ⟨D, d1, d2⟩, z3⟩
    · refine .inr (.inl ⟨(hE _ h3).load hoE ga1 hsa ga2 c2 ?_, z1, .inl z3⟩)
      intro m _ _ hm
      by_cases he : m = a.i
      · omega
      · rw [c3 m he] at hm; cases hm
    · by_cases hlt : b.i < a.i
      · refine .inr (.inl ⟨(hE _ d1).load hoE ga1 hsa ga2 ?_ ?_, z1, .inr hlt⟩)
        · rw [d2.up a.i (by omega)]
          unfold put12
          rw [if_neg (by omega)]
          exact c2
        · intro m _ _ hm
          by_cases hle : m ≤ a.i
          · exact hle
          · rw [d2.up m (by omega)] at hm
            unfold put12 at hm
            rw [if_neg (by omega), c3 m (by omega)] at hm
            cases hm
      · refine .inr (.inr ⟨(hE _ d1).load hoE gb1 (good_short gb1 hb.1 hb.2.1 hb.2.2.1 hb.2.2.2.1) gb2 ?_ ?_, z3⟩)
        · rw [d2.up b.i (Int.le_refl _)]
          unfold put12
          rw [if_pos rfl]
        · intro m _ _ hm
          by_cases hle : m ≤ b.i
          · exact hle
          · rw [d2.up m (by omega)] at hm
            unfold put12 at hm
            rw [if_neg (by omega), c3 m (by omega)] at hm
            cases hm
end Go.Proofs.YtojfihfdnchkeaaGreatDoor

namespace Go.Proofs.YtojfihfdnchkeaaGreatDoor
open Go.RowKit Go.Shelf
def GrE (FM : Prop) (w : World) (e : Ending) (w' : World) : Prop := ∃ r : Bool, e = .returned (.bool r) ∧ (r = false → FM) ∧ Below w.heap.size w w'
set_option maxRecDepth 100000 in
set_option maxHeartbeats 3000000 in
theorem greatS_any (x : SnapV) (w : World) (hF : FitsS w x) : Calls Tryz.prog 16 #[.agg x.arr] w (GrE (x.d.length ≤ 20000) w) := by
  have hb1 : Below w.heap.size w (w.alloc (.cells x.arr 47)) := (Below.refl _ _).alloc (Nat.le_refl _) _
  have hd := hF.w.len.1
  have hn := hF.f.u.len.1
  have hm := hF.f.v.len.1
  have ld := hF.l
  have ln := hF.f.lu
  have lm := hF.f.lv
  rw [hd] at ld
  rw [hn] at ln
  rw [hm] at lm
  have HF : Hid (x.w.n ≤ 20000 → x.d.length ≤ 20000) := fun h => by omega
  clear hF hd hn hm
  generalize (x.d.length ≤ 20000) = FM at *
  obtain ⟨i, t, ⟨⟨p, n, c⟩, ⟨q, m, d⟩, f⟩, ⟨a', b', e'⟩, dd⟩ := x
  unfold SnapV.arr at *
  dsimp only at *
  by_cases hg : 20000 < b'
  · go_enter Tryz.func16, Tryz.ntmps16
    go_wp2
    go_ret
    exact ⟨_, rfl, (fun h => by cases h), hb1⟩
  · have hg' : ¬ (20000 : Int) < (b' : Int) := by omega
    go_enter Tryz.func16, Tryz.ntmps16
    go_wp2
    go_ret
    exact ⟨_, rfl, (fun _ => HF.out (by omega)), hb1⟩
end Go.Proofs.YtojfihfdnchkeaaGreatDoor

namespace Go.Proofs.YtojfihfdnchkeaaGreatDoor
open Go.RowKit Go.Shelf Go.Maps
theorem name_good12 {n : Int} (hn : 1 ≤ n ∧ n ≤ 999999999) : goodN (nameB12 n) = true := by
  have hl : (name12 n).length ≤ 24 ∧ 1 ≤ (name12 n).length := by
    have hb : n.toNat < 10 ^ (19 + 1) := Nat.lt_of_lt_of_le (show n.toNat < 10 ^ 9 by simp; omega) (Nat.pow_le_pow_right (by omega) (by omega))
    have hd : (digs11 20 n.toNat).length ≤ 9 := by
      rw [digs_fuel 20 9 n.toNat hb (by simp; omega) (by omega) (by omega)]
      exact digs_len 9 _ (by simp; omega)
    unfold name12
    rw [if_pos hn, List.length_append]
    show 5 + _ ≤ 24 ∧ 1 ≤ 5 + _
    omega
  have hdata : (nameB12 n).data.toList = (name12 n).map fun z => UInt8.ofNat z.toNat := strOfNums_data _
  have hname : name12 n = pre12 ++ digs11 20 n.toNat := if_pos hn
  have hdg := digs_dig 20 n.toNat
  unfold goodN
  have hsz : (nameB12 n).size = (name12 n).length := strOf_sz _
  rw [hsz, hdata, hname]
  rw [hname] at hl
  simp only [Bool.and_eq_true, decide_eq_true_eq, List.all_eq_true]
  refine ⟨⟨⟨hl.2, hl.1⟩, by rfl⟩, fun c hc => ?_⟩
  obtain ⟨z, hz, rfl⟩ := List.mem_map.1 hc
  rcases List.mem_append.1 hz with hz | hz
  · have : z = 115 ∨ z = 110 ∨ z = 97 ∨ z = 112 ∨ z = 45 := by simpa [pre12] using hz
    rcases this with rfl | rfl | rfl | rfl | rfl <;> decide
  · obtain ⟨h1, h2⟩ := hdg z hz
    have e : (UInt8.ofNat z.toNat).toNat = z.toNat := by
      show z.toNat % 2 ^ 8 = z.toNat
      exact Nat.mod_eq_of_lt (by omega)
    rw [e]
    have : digN z.toNat = true := by
      unfold digN
      simp only [Bool.and_eq_true, decide_eq_true_eq]
      omega
    unfold chN
    rw [this]
    simp

end Go.Proofs.YtojfihfdnchkeaaGreatDoor

namespace Go.Proofs.YtojfihfdnchkeaaGreatDoor
open Go.RowKit Go.Shelf Go.Maps
attribute [local go_sem ↓] ldE_exec stE_exec ldE_execI stE_execI ldC_exec stC_exec ldC_execI stC_execI ldS_exec stS_exec ldS_execI stS_execI ldS_run ldS_box ldW_exec stW_exec ldW_execI stW_execI ldR_exec stR_exec ldR_execI stR_execI ldT_exec stT_exec ldT_execI stT_execI ldU_exec stU_exec ldU_execI stU_execI ldH_exec stH_exec ldH_execI stH_execI oc_int oc_bool oc_string oc_slice oc_pointer
structure Bx12 (W V : World) (bA bB bC : Nat) (a b : SnapV) (n k : Int) : Prop where
  ba : SnapAt V bA a
  bb : SnapAt V bB b
  bc : V.heap[bC]? = some (.cells #[.int .u64 n, .int .i64 k] 92 (0, 0))
  bel : Below W.heap.size W V
  fa : FitsS V a
  fb : FitsS V b
theorem Bx12.below {W V V' : World} {bA bB bC : Nat} {a b : SnapV} {n k : Int} (h : Bx12 W V bA bB bC a b n k) (hb : Below V.heap.size V V') : Bx12 W V' bA bB bC a b n k :=
  ⟨box_below h.ba hb, box_below h.bb hb, (hb.block _ (box_lt h.bc)).trans h.bc, h.bel.trans (hb.mono h.bel.size), h.fa.below hb, h.fb.below hb⟩
theorem Bx12.new (W : World) (a b : SnapV) (n k : Int) (ha : FitsS W a) (hb : FitsS W b) : Bx12 W (((W.alloc (.cells a.arr 47)).alloc (.cells b.arr 47)).alloc (.cells #[.int .u64 n, .int .i64 k] 92)) W.heap.size (W.heap.size + 1) (W.heap.size + 1 + 1) a b n k := by
  have z1 : (W.alloc (.cells a.arr 47)).heap.size = W.heap.size + 1 := by simp
  have z2 : ((W.alloc (.cells a.arr 47)).alloc (.cells b.arr 47)).heap.size = W.heap.size + 2 := by simp
  have b1 : Below W.heap.size W (W.alloc (.cells a.arr 47)) := (Below.refl _ _).alloc (Nat.le_refl _) _
  have x1 : SnapAt (W.alloc (.cells a.arr 47)) W.heap.size a := heap_alloc_new W _
  generalize W.alloc (.cells a.arr 47) = W1 at *
  have b2 : Below W1.heap.size W1 (W1.alloc (.cells b.arr 47)) := (Below.refl _ _).alloc (Nat.le_refl _) _
  have x2 : SnapAt (W1.alloc (.cells b.arr 47)) W1.heap.size b := heap_alloc_new W1 _
  rw [z1] at x2
  generalize W1.alloc (.cells b.arr 47) = W2 at *
  have b3 : Below W2.heap.size W2 (W2.alloc (.cells #[.int .u64 n, .int .i64 k] 92)) := (Below.refl _ _).alloc (Nat.le_refl _) _
  have x3 := heap_alloc_new W2 (.cells #[.int .u64 n, .int .i64 k] 92)
  rw [z2] at x3
  have b12 := b1.trans (b2.mono b1.size)
  have b13 := b12.trans (b3.mono b12.size)
  exact ⟨box_below (box_below x1 b2) b3, box_below x2 b3, x3, b13, ha.below b13, hb.below b13⟩
theorem FitsS.in12 {W : World} {x : SnapV} (h : FitsS W x) : In12 x.s := ⟨h.i, h.t, h.f.iu, h.f.iv, h.b⟩

theorem lod_none12 {M : DM} (ho : M.off = false) (h : load12 M = none) : lod12 M = (noS10, false, 0) := by
  unfold lod12
  rw [if_neg (by rw [ho]; decide), h]
theorem lod_some12 {M : DM} {s : Snap10} (ho : M.off = false) (h : load12 M = some s) : lod12 M = (s, true, 0) := by
  unfold lod12
  rw [if_neg (by rw [ho]; decide), h]
theorem wE_ok12 {a b : Snap10} {n k : Int} {c : Nat} (h : (wC12 a b n k).OkN c) : (wE12 a b n k).Inv := by
  have hD : (wD12 a b n k).OkN c := by
    unfold wD12
    split
    · exact h
    · exact h.crash k
  exact hD.start.inv
theorem lay12 (w : World) (Y : SnapV) (hF : FitsS w Y) : ∃ w', (w.alloc (.cells #[.int .i64 0, .int .i64 0, .slice none 0 0, .slice none 0 0, .slice none 0 0] 47)).setCells w.heap.size 0 Y.arr.toList = w' ∧ Below w.heap.size w w' ∧ SnapAt w' w.heap.size Y ∧ FitsS w' Y := by
  have hbx := heap_alloc_new w (.cells #[.int .i64 0, .int .i64 0, .slice none 0 0, .slice none 0 0, .slice none 0 0] 47)
  have hb : Below w.heap.size w ((w.alloc (.cells #[.int .i64 0, .int .i64 0, .slice none 0 0, .slice none 0 0, .slice none 0 0] 47)).setCells w.heap.size 0 Y.arr.toList) := setCells_below (Nat.le_refl _) _ _ ((Below.refl _ _).alloc (Nat.le_refl _) _)
  exact ⟨_, rfl, hb, setS_box Y hbx rfl, hF.below hb⟩

def TrE (W : World) (e : Ending) (w' : World) : Prop := e = .returned (.bool true) ∧ Below W.heap.size W w'

set_option maxRecDepth 100000 in
set_option maxHeartbeats 6000000 in
theorem snapWhole_of (a b : SnapV) (n k : Int) (hn : 0 ≤ n ∧ n ≤ 18446744073709551615) (hk : inI k) (W : World) (ha : FitsS W a) (hb : FitsS W b) (gl : Gl11 W) : Calls Tryz.prog 6 #[.agg a.arr, .agg b.arr, .agg #[.int .u64 n, .int .i64 k]] W (TrE W) := by
  have HG : Hid (∀ V, Below W.heap.size W V → Gl11 V) := fun V hb => gl.below hb (Nat.le_refl _)
  have HL : Hid _ := livesS_all gl
  have x1 := Bx12.new W a b n k ha hb
  have HX1 : Hid _ := x1
  have hla := ldS_box _ _ _ _ _ x1.ba rfl
  have hlb := ldS_box _ _ _ _ _ x1.bb rfl
  have kg := greatS_any a _ x1.fa
  clear gl ha hb x1
  go_enter Tryz.func6, Tryz.ntmps6
  go_wp2_with fail
  refine kg.mono ?_
  rintro _ w2 ⟨ra, rfl, hra, hb2⟩
  have x2 := HX1.out.below hb2
  have HX2 : Hid _ := x2
  clear kg hla hlb HX1 hb2
  cases ra with
  | true =>
    have k9 := HL.out w2 x2.bel
    clear x2
    go_wp2_with fail
    refine k9.mono ?_
    rintro _ w3 ⟨rfl, hb3⟩
    go_wp2
    go_ret
    exact ⟨rfl, (HX2.out.below hb3).bel⟩
  | false =>
    have hda : a.d.length ≤ 20000 := hra rfl
    have hlb := ldS_box _ _ _ _ _ x2.bb rfl
    have kg := greatS_any b w2 x2.fb
    clear hra x2
    go_wp2_with fail
    refine kg.mono ?_
    rintro _ w3 ⟨rb, rfl, hrb, hb3⟩
    have x3 := HX2.out.below hb3
    have HX3 : Hid _ := x3
    clear kg hlb hb3 HX2
    cases rb with
    | true =>
      have k9 := HL.out w3 x3.bel
      clear x3
      go_wp2_with fail
      refine k9.mono ?_
      rintro _ w4 ⟨rfl, hb4⟩
      go_wp2
      go_ret
      exact ⟨rfl, (HX3.out.below hb4).bel⟩
    | false =>
      have hdb : b.d.length ≤ 20000 := hrb rfl
      have kn := Disk8.new 1048576 w3 w3 (by decide) (Below.refl _ _)
      clear hrb x3
      go_wp2_with fail
      refine kn.mono ?_
      rintro _ w4 ⟨rfl, hd4, hb4⟩
      have hlt4 : ∀ k, (w3.heap.size ≤ k ∧ k < w4.heap.size) → w3.heap.size ≤ k := fun k h => h.1
      generalize w3.heap.size + 1 = d at *
      generalize (fun k => w3.heap.size ≤ k ∧ k < w4.heap.size) = S4 at *
      have x4 := HX3.out.below hb4
      have hla := ldS_box _ _ _ _ _ x4.ba rfl
      have ks := saveS_any hd4 (HG.out w3 HX3.out.bel) (okN_empty 1048576 (by decide)) (by decide) a x4.fa (fun k hk hs => by have := HX3.out.fa.inSn_lt hk; have := (hd4.own k hs).1; omega) (by omega)
      have HZ : Hid ((save12 (DM.empty 1048576) a.s).1 = 0 ↔ goodS10 a.s = true ∧ a.i ≤ 999999999) := first_zero12 x4.fa.b fun i h1 h2 => name_good12 ⟨h1, h2⟩
      have HI : Hid (In12 a.s ∧ In12 b.s) := ⟨x4.fa.in12, x4.fb.in12⟩
      have ks2 := ks.mono (R' := fun e w' => e = .returned (.int .i64 ((save12 (DM.empty 1048576) a.s).1 : Nat)) ∧ Hid (∃ S, Disk8 w3 w' d S (wA12 a.s))) fun e w' he => ⟨he.1, _, he.2.1⟩
      have HO1 : Hid ((wA12 a.s).OkN (0 + 16777700)) := okN_save12 (okN_empty 1048576 (by decide)) x4.fa.b
      clear kn hlt4 x4 ks hb4 hd4
      go_wp2_with fail
      refine ks2.mono ?_
      rintro _ w5 ⟨rfl, hS5⟩
      obtain ⟨S5, hd5⟩ := hS5.out
      have x5 := HX3.out.below hd5.bel
      have hla := ldS_box _ _ _ _ _ x5.ba rfl
      have kgd := rgoodSnap_any a w5 x5.fa
      clear ks2 hS5
      have hZ : ((save12 (DM.empty 1048576) a.s).1 : Int) = 0 ↔ goodS10 a.s = true ∧ a.i ≤ 999999999 := Iff.trans (by omega) HZ.out
      have HZ' : Hid (((save12 (DM.empty 1048576) a.s).1 : Int) = 0 ↔ goodS10 a.s = true ∧ a.i ≤ 999999999) := hZ
      clear hZ
      have HW : Hid _ := whole_is12 HI.out.1 HI.out.2 (1 + n % 16) k (fun i h1 h2 => name_good12 ⟨h1, h2⟩) (HO1.out.arm (1 + n % 16) k (by omega) hk).inv
      have HO2 : Hid ((wB12 a.s (1 + n % 16) k).OkN (0 + 16777700)) := HO1.out.arm (1 + n % 16) k (by omega) hk
      have HWz : Hid (((save12 (DM.empty 1048576) a.s).1 ≠ 0 ↔ ¬ ((save12 (DM.empty 1048576) a.s).1 : Int) = 0)) := (by constructor <;> intro h <;> omega)
      obtain ⟨f1, hf1⟩ : ∃ f1 : Int, ((save12 (DM.empty 1048576) a.s).1 : Int) = f1 := ⟨_, rfl⟩
      rw [hf1] at HZ' HWz
      have hcase : (f1 = 0 ∧ goodS10 a.s = true ∧ a.i ≤ 999999999) ∨ (¬ f1 = 0 ∧ goodS10 a.s = false) ∨ (¬ f1 = 0 ∧ goodS10 a.s = true ∧ ¬ a.i ≤ 999999999) := by
        have := HZ'.out
        by_cases h0 : f1 = 0
        · exact .inl ⟨h0, this.1 h0⟩
        · cases hg : goodS10 a.s with
          | false => exact .inr (.inl ⟨h0, rfl⟩)
          | true =>
            by_cases hi : a.i ≤ 999999999
            · exact absurd (this.2 ⟨hg, hi⟩) h0
            · exact .inr (.inr ⟨h0, rfl, hi⟩)
      have hnm : 0 ≤ n % 16 ∧ n % 16 < 16 := by omega
      generalize hq : n % 16 = q at *
      clear HZ' HI HZ
      rw [hf1]
      go_wp2_with fail
      refine kgd.mono ?_
      rintro _ w6 ⟨rfl, hb6⟩
      have x6 := x5.below hb6
      have hd6 := hd5.below hb6
      obtain ⟨ca, -⟩ := SnapAt.cells x6.ba
      have la := box_lt x6.ba
      have cc0 : w6.cell? ⟨W.heap.size + 1 + 1, 0, none⟩ = some (.int .u64 n) := box_cell x6.bc 0
      have cc1 : w6.cell? ⟨W.heap.size + 1 + 1, 1, none⟩ = some (.int .i64 k) := box_cell x6.bc 1
      have lc := box_lt x6.bc
      have karm := hd6.arm (1 + q) k (by omega)
      have HX6 : Hid _ := x6
      clear kgd hla x5 hd5 hb6 x6 hd6
      have HEc : Hid ((wC12 a.s b.s (1 + q) k).off = true → wD12 a.s b.s (1 + q) k = wC12 a.s b.s (1 + q) k) := fun h => if_pos h
      have HEd : Hid ((wC12 a.s b.s (1 + q) k).off = false → wD12 a.s b.s (1 + q) k = (wC12 a.s b.s (1 + q) k).crash k) := fun h => if_neg (by rw [h]; decide)
      have HG3 : Hid (Gl11 w3) := HG.out w3 HX3.out.bel
      rcases hcase with ⟨h1, h2, h3⟩ | ⟨h1, h2⟩ | ⟨h1, h2, h3⟩
      case' inl =>
        rw [h2]
        have h4 : (f1 == 0) = true := by simp [h1]
        have h6 : decide (a.i ≤ 999999999) = true := by simp; omega
        go_wp2_with fail
      case' inr.inl =>
        rw [h2]
        have h4 : (f1 == 0) = false := by simp [h1]
        go_wp2_with fail
      case' inr.inr =>
        rw [h2]
        have h4 : (f1 == 0) = false := by simp [h1]
        have h6 : decide (a.i ≤ 999999999) = false := by simp; omega
        go_wp2_with fail
      all_goals
        refine karm.mono ?_
        rintro _ w7 ⟨rfl, hd7, -⟩
        have hS7 : Hid (∃ S, Disk8 w3 w7 d S (wB12 a.s (1 + q) k)) := ⟨_, hd7⟩
        clear hd7 karm ca cc0 cc1
        obtain ⟨S7, hd7⟩ := hS7.out
        have x7 := HX3.out.below hd7.bel
        have hlb := ldS_box _ _ _ _ _ x7.bb rfl
        have ks := saveS_any hd7 HG3.out HO2.out (by decide) b x7.fb (fun k hk hs => by have := HX3.out.fb.inSn_lt hk; have := (hd7.own k hs).1; omega) (by omega)
        have HO3 : Hid ((wC12 a.s b.s (1 + q) k).OkN (0 + 16777700 + 16777700)) := okN_save12 HO2.out x7.fb.b
        obtain ⟨f2, hf2⟩ : ∃ f2 : Int, ((save12 (wB12 a.s (1 + q) k) b.s).1 : Int) = f2 := ⟨_, rfl⟩
        have ks2 := ks.mono (R' := fun e w' => e = .returned (.int .i64 f2) ∧ Hid (∃ S, Disk8 w3 w' d S (wC12 a.s b.s (1 + q) k))) fun e w' he => ⟨by rw [← hf2]; exact he.1, _, he.2.1⟩
        clear ks x7 hd7 hS7
        go_wp2_with fail
        refine ks2.mono ?_
        rintro _ w8 ⟨rfl, hS8⟩
        obtain ⟨S8, hd8⟩ := hS8.out
        have x8 := HX3.out.below hd8.bel
        have kon := on_any hd8.at8
        have kcr := hd8.crash HO3.out (by decide) k hk
        have cc1 : w8.cell? ⟨W.heap.size + 1 + 1, 1, none⟩ = some (.int .i64 k) := box_cell x8.bc 1
        have lc := box_lt x8.bc
        clear ks2 hS8 hlb x8
        cases hoff : (wC12 a.s b.s (1 + q) k).off
        case' true =>
          have hS9 : Hid (∃ S, Disk8 w3 w8 d S (wD12 a.s b.s (1 + q) k)) := ⟨S8, by rw [HEc.out hoff]; exact hd8⟩
          rw [hoff] at kon
          clear hd8 kcr
          go_wp2_with fail
          refine same_mono kon ?_
          obtain ⟨S9, hd9⟩ := hS9.out
          clear hS9 kon
          obtain ⟨w9, rfl⟩ : ∃ w9, w9 = w8 := ⟨_, rfl⟩
          have kst := hd9.start
          go_wp2_with fail
        case' false =>
          rw [hoff] at kon
          go_wp2_with fail
          refine same_mono kon ?_
          go_wp2_with fail
          refine kcr.mono ?_
          rintro _ w9 ⟨⟨v9, rfl⟩, hd9, -⟩
          have hS9 : Hid (∃ S, Disk8 w3 w9 d S (wD12 a.s b.s (1 + q) k)) := ⟨_, by rw [HEd.out hoff]; exact hd9⟩
          clear hd9 kcr kon
          obtain ⟨S9, hd9⟩ := hS9.out
          have kst := hd9.start
          go_wp2_with fail
        all_goals
          refine kst.mono ?_
          rintro _ w10 ⟨⟨v10, rfl⟩, hd10, -⟩
          have hS10 : Hid (∃ S, Disk8 w3 w10 d S (wE12 a.s b.s (1 + q) k)) := ⟨_, hd10⟩
          clear hd10 kst hd9
          obtain ⟨S10, hd10⟩ := hS10.out
          have hE := loadS_any hd10 HG3.out (wE_ok12 HO3.out)
          have HD10 : Hid (∀ w', Below w10.heap.size w10 w' → Bx12 W w' W.heap.size (W.heap.size + 1) (W.heap.size + 1 + 1) a b n k) := fun w' h => HX3.out.below (hd10.below h).bel
          have HWc : Hid ((load12 (wE12 a.s b.s (1 + q) k) = none ∧ ¬ f1 = 0 ∧ ¬ f2 = 0) ∨ (load12 (wE12 a.s b.s (1 + q) k) = some a.s ∧ f1 = 0 ∧ (¬ f2 = 0 ∨ b.i < a.i)) ∨ (load12 (wE12 a.s b.s (1 + q) k) = some b.s ∧ (f2 = 0 ∨ f2 = 9))) := by
            have e1 : (save12 (DM.empty 1048576) a.s).1 = 0 ↔ f1 = 0 := by rw [← hf1]; omega
            have e2 : (save12 (wB12 a.s (1 + q) k) b.s).1 = 0 ↔ f2 = 0 := by rw [← hf2]; omega
            have e3 : (save12 (wB12 a.s (1 + q) k) b.s).1 = 9 ↔ f2 = 9 := by rw [← hf2]; omega
            rcases HW.out with ⟨l, p1, p2⟩ | ⟨l, p1, p2⟩ | ⟨l, p2⟩
            · exact .inl ⟨l, fun h => p1 (e1.2 h), fun h => p2 (e2.2 h)⟩
            · exact .inr (.inl ⟨l, e1.1 p1, p2.imp (fun p h => p (e2.2 h)) id⟩)
            · exact .inr (.inr ⟨l, p2.imp e2.1 e3.1⟩)
          have HoE : Hid ((wE12 a.s b.s (1 + q) k).off = false) := rfl
          generalize wE12 a.s b.s (1 + q) k = ME at *
          clear hd10 hS10 HW HWz hf1 hf2 HO1 HO2 HO3 HEc HEd
          rcases HWc.out with ⟨hl, g1, g2⟩ | ⟨hl, g1, g2⟩ | ⟨hl, g2⟩
          · first
              | exact absurd h1 g1
              | (rw [lod_none12 HoE.out hl] at hE
                 have h7 : (f2 == 0) = false := by simp [g2]
                 clear HWc HoE hl
                 go_wp2_with fail
                 refine hE.mono ?_
                 rintro _ w11 ⟨Y, rfl, hY, hO, hb11⟩
                 obtain ⟨w12, hw12, hb12, hy12, hF12⟩ := lay12 w11 Y hO.fits
                 have hst := stS_arr Y (there_box (heap_alloc_new w11 (.cells #[.int .i64 0, .int .i64 0, .slice none 0 0, .slice none 0 0, .slice none 0 0] 47)) 0 5 (Nat.le_refl _))
                 rw [hw12] at hst
                 have x12 := HD10.out w12 (hb11.trans (hb12.mono hb11.size))
                 have k9 := HL.out w12 x12.bel
                 clear hE hY hO hy12 hF12 hw12
                 go_wp2_with fail
                 refine k9.mono ?_
                 rintro _ w13 ⟨rfl, hb13⟩
                 go_wp2
                 go_ret
                 exact ⟨rfl, (x12.below hb13).bel⟩)
          · first
              | exact absurd g1 h1
              | (rw [lod_some12 HoE.out hl] at hE
                 clear HWc HoE hl
                 go_wp2_with fail
                 refine hE.mono ?_
                 rintro _ w11 ⟨Y, rfl, hY, hO, hb11⟩
                 obtain ⟨w12, hw12, hb12, hy12, hF12⟩ := lay12 w11 Y hO.fits
                 have hst := stS_arr Y (there_box (heap_alloc_new w11 (.cells #[.int .i64 0, .int .i64 0, .slice none 0 0, .slice none 0 0, .slice none 0 0] 47)) 0 5 (Nat.le_refl _))
                 rw [hw12] at hst
                 have x12 := HD10.out w12 (hb11.trans (hb12.mono hb11.size))
                 have hls := ldS_box _ _ _ _ _ hy12 rfl
                 have hla := ldS_box _ _ _ _ _ x12.ba rfl
                 have hlb := ldS_box _ _ _ _ _ x12.bb rfl
                 have HY : Hid (SnapAt w12 w11.heap.size Y ∧ FitsS w12 Y) := ⟨hy12, hF12⟩
                 have HX12 : Hid _ := x12
                 have ksm := rsameSnap_any Y a w12 hF12 x12.fa
                 rw [show Y.s = a.s from hY, (sameS10_iff a.s a.s).2 rfl] at ksm
                 clear hE hY hO hy12 hF12 hw12 x12 hlb
                 go_wp2_with fail
                 refine ksm.mono ?_
                 rintro _ w13 ⟨rfl, hb13⟩
                 have x13 := HX12.out.below hb13
                 have HX13 : Hid _ := x13
                 have hls := ldS_box w13 _ _ _ _ (box_below HY.out.1 hb13) rfl
                 have hlb := ldS_box _ _ _ _ _ x13.bb rfl
                 have ksm := rsameSnap_any Y b w13 (HY.out.2.below hb13) x13.fb
                 clear x13 hla hst hb11 hb12
                 generalize sameS10 Y.s b.s = r at *
                 go_wp2_with fail
                 refine ksm.mono ?_
                 rintro _ w14 ⟨rfl, hb14⟩
                 have x14 := HX13.out.below hb14
                 have k9 := HL.out w14 x14.bel
                 obtain ⟨ca, -⟩ := SnapAt.cells x14.ba
                 obtain ⟨cb, -⟩ := SnapAt.cells x14.bb
                 have la := box_lt x14.ba
                 have lb := box_lt x14.bb
                 have HX14 : Hid _ := x14
                 clear ksm hls hlb x14 hb13 hb14 HX13 HX12 HY
                 by_cases h20 : f2 = 0
                 · have h7 : (f2 == 0) = true := by simp [h20]
                   have hlt : b.i < a.i := g2.resolve_left fun h => h h20
                   have hlt2 : decide (b.i < a.i) = true := by simp [hlt]
                   cases r
                   all_goals
                     go_wp2_with fail
                     refine k9.mono ?_
                     rintro _ w15 ⟨rfl, hb15⟩
                     go_wp2
                     go_ret
                     exact ⟨rfl, (HX14.out.below hb15).bel⟩
                 · have h7 : (f2 == 0) = false := by simp [h20]
                   go_wp2_with fail
                   refine k9.mono ?_
                   rintro _ w15 ⟨rfl, hb15⟩
                   go_wp2
                   go_ret
                   exact ⟨rfl, (HX14.out.below hb15).bel⟩)
          · first
              | (have hz : f1 = 0 := h1
                 rw [lod_some12 HoE.out hl] at hE
                 clear HWc HoE hl
                 go_wp2_with fail
                 refine hE.mono ?_
                 rintro _ w11 ⟨Y, rfl, hY, hO, hb11⟩
                 obtain ⟨w12, hw12, hb12, hy12, hF12⟩ := lay12 w11 Y hO.fits
                 have hst := stS_arr Y (there_box (heap_alloc_new w11 (.cells #[.int .i64 0, .int .i64 0, .slice none 0 0, .slice none 0 0, .slice none 0 0] 47)) 0 5 (Nat.le_refl _))
                 rw [hw12] at hst
                 have x12 := HD10.out w12 (hb11.trans (hb12.mono hb11.size))
                 have hls := ldS_box _ _ _ _ _ hy12 rfl
                 have hla := ldS_box _ _ _ _ _ x12.ba rfl
                 have hlb := ldS_box _ _ _ _ _ x12.bb rfl
                 have HY : Hid (SnapAt w12 w11.heap.size Y ∧ FitsS w12 Y) := ⟨hy12, hF12⟩
                 have HYb : Hid (Y.s = b.s) := hY
                 have HX12 : Hid _ := x12
                 have ksm := rsameSnap_any Y a w12 hF12 x12.fa
                 generalize sameS10 Y.s a.s = r at *
                 clear hE hY hO hy12 hF12 hw12 x12 hlb hz
                 go_wp2_with fail
                 refine ksm.mono ?_
                 rintro _ w13 ⟨rfl, hb13⟩
                 have x13 := HX12.out.below hb13
                 have HX13 : Hid _ := x13
                 have hls := ldS_box w13 _ _ _ _ (box_below HY.out.1 hb13) rfl
                 have hlb := ldS_box _ _ _ _ _ x13.bb rfl
                 have ksm := rsameSnap_any Y b w13 (HY.out.2.below hb13) x13.fb
                 rw [HYb.out, (sameS10_iff b.s b.s).2 rfl] at ksm
                 clear x13 hla hst hb11 hb12 HYb
                 go_wp2_with fail
                 refine ksm.mono ?_
                 rintro _ w14 ⟨rfl, hb14⟩
                 have x14 := HX13.out.below hb14
                 have k9 := HL.out w14 x14.bel
                 have HX14 : Hid _ := x14
                 clear ksm hls hlb x14 hb13 hb14 HX13 HX12 HY
                 by_cases h20 : f2 = 0
                 · have h7 : (f2 == 0) = true := by simp [h20]
                   go_wp2_with fail
                   refine k9.mono ?_
                   rintro _ w15 ⟨rfl, hb15⟩
                   go_wp2
                   go_ret
                   exact ⟨rfl, (HX14.out.below hb15).bel⟩
                 · have h29 : f2 = 9 := g2.resolve_left h20
                   have h7 : (f2 == 0) = false := by simp [h20]
                   have h8 : (f2 == 9) = true := by simp [h29]
                   cases r
                   all_goals
                     go_wp2_with fail
                     refine k9.mono ?_
                     rintro _ w15 ⟨rfl, hb15⟩
                     go_wp2
                     go_ret
                     exact ⟨rfl, (HX14.out.below hb15).bel⟩)
              | (have hz : ¬ f1 = 0 := h1
                 rw [lod_some12 HoE.out hl] at hE
                 clear HWc HoE hl
                 go_wp2_with fail
                 refine hE.mono ?_
                 rintro _ w11 ⟨Y, rfl, hY, hO, hb11⟩
                 obtain ⟨w12, hw12, hb12, hy12, hF12⟩ := lay12 w11 Y hO.fits
                 have hst := stS_arr Y (there_box (heap_alloc_new w11 (.cells #[.int .i64 0, .int .i64 0, .slice none 0 0, .slice none 0 0, .slice none 0 0] 47)) 0 5 (Nat.le_refl _))
                 rw [hw12] at hst
                 have x12 := HD10.out w12 (hb11.trans (hb12.mono hb11.size))
                 have hls := ldS_box _ _ _ _ _ hy12 rfl
                 have hla := ldS_box _ _ _ _ _ x12.ba rfl
                 have hlb := ldS_box _ _ _ _ _ x12.bb rfl
                 have HX12 : Hid _ := x12
                 have ksm := rsameSnap_any Y b w12 hF12 x12.fb
                 rw [show Y.s = b.s from hY, (sameS10_iff b.s b.s).2 rfl] at ksm
                 clear hE hY hO hy12 hF12 hw12 x12 hla hz
                 go_wp2_with fail
                 refine ksm.mono ?_
                 rintro _ w14 ⟨rfl, hb14⟩
                 have x14 := HX12.out.below hb14
                 have k9 := HL.out w14 x14.bel
                 have HX14 : Hid _ := x14
                 clear ksm hls hlb x14 hb14 HX12 hst hb11 hb12
                 by_cases h20 : f2 = 0
                 · have h7 : (f2 == 0) = true := by simp [h20]
                   go_wp2_with fail
                   refine k9.mono ?_
                   rintro _ w15 ⟨rfl, hb15⟩
                   go_wp2
                   go_ret
                   exact ⟨rfl, (HX14.out.below hb15).bel⟩
                 · have h29 : f2 = 9 := g2.resolve_left h20
                   have h7 : (f2 == 0) = false := by simp [h20]
                   have h8 : (f2 == 9) = true := by simp [h29]
                   go_wp2_with fail
                   refine k9.mono ?_
                   rintro _ w15 ⟨rfl, hb15⟩
                   go_wp2
                   go_ret
                   exact ⟨rfl, (HX14.out.below hb15).bel⟩)
end Go.Proofs.YtojfihfdnchkeaaGreatDoor
