/-
  The law CodecReads: its walk.
-/
import Derived.Test.YtmlekbabofldoaaDoorRef8
import Derived.Test.YtmlekbabofldoaaDoorLives
import Derived.Test.YtmlekbabofldoaaDoorRowed
namespace Go.Proofs.YtmlekbabofldoaaDoor
open Go.RowKit

theorem IsRow.cells {k : IntKind} {w : World} {a : Option Addr} {len cap : Nat} {zs : List Int} (h : IsRow k w a len cap zs) : (0 < len → ∃ b o, a = some ⟨b, o, none⟩ ∧ b < w.heap.size ∧ ∀ i, i < len → w.cell? ⟨b, o + i, none⟩ = some (.int k (zs.getD i 0)) ∧ (Lit.int k (zs.getD i 0)).wf = true) ∧ len ≤ cap := by
  rcases h with ⟨rfl, rfl, rfl, rfl⟩ | ⟨x, rfl, hl, _, hz, hc, hw⟩
  · exact ⟨fun h => by omega, by omega⟩
  · refine ⟨fun h0 => ?_, hl⟩
    obtain ⟨b, o, s⟩ := x
    obtain rfl : s = none := by simpa [Addr.add] using World.cell?_spot (hc 0 (by omega))
    refine ⟨b, o, rfl, World.block_lt_of_cell? w _ (hc 0 (by omega)), fun i hi => ⟨?_, ?_⟩⟩
    · rw [← Go.WideShapes.add_plain]; exact hc i (by omega)
    · refine hw _ ?_
      have hi' : i < zs.length := by omega
      have e : zs.getD i 0 = zs[i] := by simp [List.getElem?_eq_getElem hi']
      rw [e]
      exact List.getElem_mem hi'

theorem and7 (k : Int) : 0 ≤ bits BinOp.and .i64 k 7 ∧ bits BinOp.and .i64 k 7 ≤ 7 := by
  have h : (BitVec.ofInt 64 k &&& BitVec.ofInt 64 7).toNat ≤ 7 := by
    rw [BitVec.toNat_and]
    exact Nat.and_le_right
  have e : bits BinOp.and .i64 k 7 = IntKind.i64.wrap ((BitVec.ofInt 64 k &&& BitVec.ofInt 64 7).toNat : Int) := rfl
  rw [e, IntKind.wrap_i64]
  omega

theorem bool_neq (b : Bool) : (b != b) = false := by cases b <;> rfl
theorem listb (l : List Int) : (l == l) = true := by simp
theorem strb (l : List UInt8) : (l == l) = true := by simp

theorem rd_new2 (w : World) (v : Value) (xs : List Int) (t t' : TypeId) (h : Has w v xs) :
    Rd ((w.alloc (.cells #[v, .bool false] t)).alloc (.cells #[v, .bool false] t')) w.heap.size w.heap.size v xs false ∧
    Rd ((w.alloc (.cells #[v, .bool false] t)).alloc (.cells #[v, .bool false] t')) (w.heap.size + 1) w.heap.size v xs false := by
  have hb1 : Below w.heap.size w (w.alloc (.cells #[v, .bool false] t)) := (Below.refl w.heap.size w).alloc (Nat.le_refl _) _
  have hb2 : Below w.heap.size w ((w.alloc (.cells #[v, .bool false] t)).alloc (.cells #[v, .bool false] t')) := hb1.alloc (by simp) _
  have hi : HasIn ((w.alloc (.cells #[v, .bool false] t)).alloc (.cells #[v, .bool false] t')) w.heap.size v xs := h.inn.below hb2 (Nat.le_refl _)
  constructor
  · exact ⟨by simp; omega, Nat.le_refl _, by simp, by simp, by simp, by simp, hi⟩
  · exact ⟨by simp, by omega, by simp, by simp, by simp, by simp, hi⟩

set_option maxHeartbeats 8000000 in
set_option maxRecDepth 20000 in
theorem reads_any (a0 : Option Addr) (len0 cap0 : Nat) (z0 : List Int) (a1 : Option Addr) (len1 cap1 : Nat) (z1 : List Int) (w : World) (hT : Tab w) (hr0 : IsRow .u8 w a0 len0 cap0 z0) (hr1 : IsRow .i64 w a1 len1 cap1 z1) :
    Calls Tryd.prog 6 #[.slice a0 len0 cap0, .slice a1 len1 cap1] w fun e w' => e = .returned (.bool true) ∧ Below w.heap.size w w' := by
  obtain ⟨hv, hB, hlen⟩ := hr0.has
  have hmax0 := hr0.len_le
  have hmax1 := hr1.len_le
  obtain ⟨hcells, hlc1⟩ := hr1.cells
  generalize z0.take len0 = xs at *
  clear hr0 hr1
  by_cases hlong : 10000 < len0
  · go_enter Tryd.func6, Tryd.ntmps6
    go_wp2_with (go_at_call 9; refine (lives_any _ hT).mono ?_; rintro e w1 ⟨rfl, hb1⟩)
    go_ret
    exact ⟨rfl, hb1⟩
  · by_cases hmany : 200 < len1
    · go_enter Tryd.func6, Tryd.ntmps6
      go_wp2_with (go_at_call 9; refine (lives_any _ hT).mono ?_; rintro e w1 ⟨rfl, hb1⟩)
      go_ret
      exact ⟨rfl, hb1⟩
    · obtain ⟨hR, hS⟩ := rd_new2 w (.slice a0 len0 cap0) xs 53 55 hv
      have hb0 : Below w.heap.size w ((w.alloc (.cells #[.slice a0 len0 cap0, .bool false] 53)).alloc (.cells #[.slice a0 len0 cap0, .bool false] 55)) := ((Below.refl w.heap.size w).alloc (Nat.le_refl _) _).alloc (by simp) _
      have HR : Hid (Rd ((w.alloc (.cells #[.slice a0 len0 cap0, .bool false] 53)).alloc (.cells #[.slice a0 len0 cap0, .bool false] 55)) w.heap.size w.heap.size (.slice a0 len0 cap0) xs false) := hR
      have HS : Hid (Rd ((w.alloc (.cells #[.slice a0 len0 cap0, .bool false] 53)).alloc (.cells #[.slice a0 len0 cap0, .bool false] 55)) (w.heap.size + 1) w.heap.size (.slice a0 len0 cap0) xs false) := hS
      have HB0 : Hid (Below w.heap.size w ((w.alloc (.cells #[.slice a0 len0 cap0, .bool false] 53)).alloc (.cells #[.slice a0 len0 cap0, .bool false] 55))) := hb0
      have HCL : Hid (0 < len1 → ∃ b o, a1 = some ⟨b, o, none⟩ ∧ b < w.heap.size ∧ ∀ i, i < len1 → w.cell? ⟨b, o + i, none⟩ = some (.int .i64 (z1.getD i 0)) ∧ (Lit.int .i64 (z1.getD i 0)).wf = true) := hcells
      clear hR hS hb0 hv hcells
      go_enter Tryd.func6, Tryd.ntmps6
      go_wp2
      go_loopw [27] (fun t wr => ∃ (j : Nat) (ys : List Int) (wrong : Bool) (vr vs : Value), j ≤ len1 ∧ t = .int .i64 j ∧ Rd wr w.heap.size w.heap.size vr ys wrong ∧ Rd wr (w.heap.size + 1) w.heap.size vs ys wrong ∧ Inv ys wrong ∧ IsB ys ∧ ys.length ≤ 10000 ∧ Below w.heap.size w wr) (fun t _ => len1 - (intOf t).toNat)
      case atStart => exact ⟨0, xs, false, _, _, Nat.zero_le _, rfl, HR.out, HS.out, (fun h => by cases h), hB, by omega, HB0.out⟩
      case round =>
        obtain ⟨j, ys, wrong, vr, vs, hj, rfl, hr, hs, hI, hBy, hly, hbr⟩ := hrel
        clear HR HS HB0
        by_cases hlt : j < len1
        · obtain ⟨b, o, rfl, hbl, hcl⟩ := HCL.out (by omega)
          obtain ⟨hcj, hwj⟩ := hcl j hlt
          have hkb := bounds_i64 hwj
          have hcj2 := (hbr.cell (p := ⟨b, o + j, none⟩) hbl).trans hcj
          clear hcl hwj hcj
          generalize z1.getD j 0 = kk at *
          have h7 := and7 kk
          have HRr : Hid (Rd wr w.heap.size w.heap.size vr ys wrong) := hr
          have HSs : Hid (Rd wr (w.heap.size + 1) w.heap.size vs ys wrong) := hs
          have HII : Hid (Inv ys wrong) := hI
          have HSR : Hid (srcS ys wrong = ys) := hI.src
          have HBR : Hid (Below w.heap.size w wr) := hbr
          clear hr hs hI hbr
          have h8 : bits BinOp.and .i64 kk 7 = 0 ∨ bits BinOp.and .i64 kk 7 = 1 ∨ bits BinOp.and .i64 kk 7 = 2 ∨ bits BinOp.and .i64 kk 7 = 3 ∨ bits BinOp.and .i64 kk 7 = 4 ∨ bits BinOp.and .i64 kk 7 = 5 ∨ bits BinOp.and .i64 kk 7 = 6 ∨ bits BinOp.and .i64 kk 7 = 7 := by omega
          clear h7
          rcases h8 with h8 | h8 | h8 | h8 | h8 | h8 | h8 | h8
          · go_wp2_with (first
              | (go_at_call 35; refine (num_any _ w.heap.size w.heap.size vr ys wrong HRr.out hBy (by omega)).mono ?_; rintro e w1 ⟨rfl, ⟨v1, hr1⟩, hg1⟩; rw [HSR.out] at hr1 ⊢; have hs1 := HSs.out.grown hg1 (by omega) (Nat.le_refl _))
              | (go_at_call 36; refine (rnum_any _ (w.heap.size + 1) w.heap.size vs ys wrong hs1 HII.out hBy (by omega)).mono ?_; rintro e w2 ⟨rfl, ⟨v2, hs2⟩, hg2⟩; have hr2 := hr1.grown hg2 (by omega) (by omega); have hb2 : Below w.heap.size w w2 := (HBR.out.grown hg1 HBR.out.size (fun k hk => by cases hk; exact Nat.le_refl _)).grown hg2 (Nat.le_trans HBR.out.size hg1.size) (fun k hk => by cases hk; omega)))
            all_goals
              have hI2 := HII.out.lose (getS ys).2
              have hB2 := loseS_isB hBy wrong (getS ys).2
              have hl2 := loseS_length ys wrong (getS ys).2
              clear hr1 hs1 hg1 hg2 HRr HSs HSR HII HBR hcj2
              generalize (loseS ys wrong (getS ys).2).1 = zs at *
              generalize (loseS ys wrong (getS ys).2).2 = wr2 at *
              have cr0 := hr2.c0
              have cr1 := hr2.c1
              have cs0 := hs2.c0
              have cs1 := hs2.c1
              have hne := bool_neq wr2
              have hne2 := bool_neq (zs.isEmpty && !wr2)
              have hbd := fun n => below_drewN (Below.refl w2.heap.size w2) n
              have QS : Hid (∀ n, Calls Tryd.prog 15 #[v1, v2] (w2.drewN n) fun e w' => e = .returned (.bool true) ∧ w' = w2.drewN n) := fun n => by
                have h := same_any v1 v2 zs zs (w2.drewN n) ((hr2.has.has (Nat.le_of_lt hr2.lt)).below (hbd n) (Nat.le_refl _)) ((hs2.has.has (Nat.le_of_lt hr2.lt)).below (hbd n) (Nat.le_refl _)) hB2 hB2
                rwa [listb] at h
              have QE : Hid (∀ n, Calls Tryd.prog 45 #[.pointer (some ⟨w.heap.size, 0, none⟩)] (w2.drewN n) fun e w' => e = .returned (.bool (zs.isEmpty && !wr2)) ∧ w' = w2.drewN n) := fun n => end_any _ _ _ v1 zs wr2 (hr2.below (hbd n) hr2.lt)
              have QF : Hid (∀ n, Calls Tryd.prog 46 #[.pointer (some ⟨w.heap.size + 1, 0, none⟩)] (w2.drewN n) fun e w' => e = .returned (.bool (zs.isEmpty && !wr2)) ∧ w' = w2.drewN n) := fun n => rend_any _ _ _ v2 zs wr2 (hs2.below (hbd n) hs2.lt)
              have HR2 : Hid (Rd w2 w.heap.size w.heap.size v1 zs wr2) := hr2
              have HS2 : Hid (Rd w2 (w.heap.size + 1) w.heap.size v2 zs wr2) := hs2
              have HI2 : Hid (Inv zs wr2) := hI2
              generalize (zs.isEmpty && !wr2) = E at *
              clear hr2 hs2 hI2 hbd
              go_quiet (first | (go_at_call 15; exact Calls.quiet_of_same (QS.out _)) | (go_at_call 45; exact Calls.quiet_of_same (QE.out _)) | (go_at_call 46; exact Calls.quiet_of_same (QF.out _)))
              go_wp2
              go_roundw
              case rel => exact ⟨j + 1, zs, wr2, v1, v2, by omega, by go_num, HR2.out.below (below_drewN (Below.refl w2.heap.size w2) nq) HR2.out.lt, HS2.out.below (below_drewN (Below.refl w2.heap.size w2) nq) HS2.out.lt, HI2.out, hB2, by omega, below_drewN hb2 nq⟩
              case measure => simp [intOf]; omega
          · go_wp2_with (first
              | (go_at_call 35; refine (num_any _ w.heap.size w.heap.size vr ys wrong HRr.out hBy (by omega)).mono ?_; rintro e w1 ⟨rfl, ⟨v1, hr1⟩, hg1⟩; rw [HSR.out] at hr1 ⊢; have hs1 := HSs.out.grown hg1 (by omega) (Nat.le_refl _))
              | (go_at_call 36; refine (rnum_any _ (w.heap.size + 1) w.heap.size vs ys wrong hs1 HII.out hBy (by omega)).mono ?_; rintro e w2 ⟨rfl, ⟨v2, hs2⟩, hg2⟩; have hr2 := hr1.grown hg2 (by omega) (by omega); have hb2 : Below w.heap.size w w2 := (HBR.out.grown hg1 HBR.out.size (fun k hk => by cases hk; exact Nat.le_refl _)).grown hg2 (Nat.le_trans HBR.out.size hg1.size) (fun k hk => by cases hk; omega)))
            all_goals
              have hI2 := HII.out.lose (getS ys).2
              have hB2 := loseS_isB hBy wrong (getS ys).2
              have hl2 := loseS_length ys wrong (getS ys).2
              clear hr1 hs1 hg1 hg2 HRr HSs HSR HII HBR hcj2
              generalize (loseS ys wrong (getS ys).2).1 = zs at *
              generalize (loseS ys wrong (getS ys).2).2 = wr2 at *
              have cr0 := hr2.c0
              have cr1 := hr2.c1
              have cs0 := hs2.c0
              have cs1 := hs2.c1
              have hne := bool_neq wr2
              have hne2 := bool_neq (zs.isEmpty && !wr2)
              have hbd := fun n => below_drewN (Below.refl w2.heap.size w2) n
              have QS : Hid (∀ n, Calls Tryd.prog 15 #[v1, v2] (w2.drewN n) fun e w' => e = .returned (.bool true) ∧ w' = w2.drewN n) := fun n => by
                have h := same_any v1 v2 zs zs (w2.drewN n) ((hr2.has.has (Nat.le_of_lt hr2.lt)).below (hbd n) (Nat.le_refl _)) ((hs2.has.has (Nat.le_of_lt hr2.lt)).below (hbd n) (Nat.le_refl _)) hB2 hB2
                rwa [listb] at h
              have QE : Hid (∀ n, Calls Tryd.prog 45 #[.pointer (some ⟨w.heap.size, 0, none⟩)] (w2.drewN n) fun e w' => e = .returned (.bool (zs.isEmpty && !wr2)) ∧ w' = w2.drewN n) := fun n => end_any _ _ _ v1 zs wr2 (hr2.below (hbd n) hr2.lt)
              have QF : Hid (∀ n, Calls Tryd.prog 46 #[.pointer (some ⟨w.heap.size + 1, 0, none⟩)] (w2.drewN n) fun e w' => e = .returned (.bool (zs.isEmpty && !wr2)) ∧ w' = w2.drewN n) := fun n => rend_any _ _ _ v2 zs wr2 (hs2.below (hbd n) hs2.lt)
              have HR2 : Hid (Rd w2 w.heap.size w.heap.size v1 zs wr2) := hr2
              have HS2 : Hid (Rd w2 (w.heap.size + 1) w.heap.size v2 zs wr2) := hs2
              have HI2 : Hid (Inv zs wr2) := hI2
              generalize (zs.isEmpty && !wr2) = E at *
              clear hr2 hs2 hI2 hbd
              go_quiet (first | (go_at_call 15; exact Calls.quiet_of_same (QS.out _)) | (go_at_call 45; exact Calls.quiet_of_same (QE.out _)) | (go_at_call 46; exact Calls.quiet_of_same (QF.out _)))
              go_wp2
              go_roundw
              case rel => exact ⟨j + 1, zs, wr2, v1, v2, by omega, by go_num, HR2.out.below (below_drewN (Below.refl w2.heap.size w2) nq) HR2.out.lt, HS2.out.below (below_drewN (Below.refl w2.heap.size w2) nq) HS2.out.lt, HI2.out, hB2, by omega, below_drewN hb2 nq⟩
              case measure => simp [intOf]; omega
          · go_wp2_with (first
              | (go_at_call 37; refine (int_any _ w.heap.size w.heap.size vr ys wrong HRr.out hBy (by omega)).mono ?_; rintro e w1 ⟨rfl, ⟨v1, hr1⟩, hg1⟩; rw [HSR.out] at hr1 ⊢; have hs1 := HSs.out.grown hg1 (by omega) (Nat.le_refl _))
              | (go_at_call 38; refine (rint_any _ (w.heap.size + 1) w.heap.size vs ys wrong hs1 HII.out hBy (by omega)).mono ?_; rintro e w2 ⟨rfl, ⟨v2, hs2⟩, hg2⟩; have hr2 := hr1.grown hg2 (by omega) (by omega); have hb2 : Below w.heap.size w w2 := (HBR.out.grown hg1 HBR.out.size (fun k hk => by cases hk; exact Nat.le_refl _)).grown hg2 (Nat.le_trans HBR.out.size hg1.size) (fun k hk => by cases hk; omega)))
            all_goals
              have hI2 := HII.out.lose (getS ys).2
              have hB2 := loseS_isB hBy wrong (getS ys).2
              have hl2 := loseS_length ys wrong (getS ys).2
              clear hr1 hs1 hg1 hg2 HRr HSs HSR HII HBR hcj2
              generalize (loseS ys wrong (getS ys).2).1 = zs at *
              generalize (loseS ys wrong (getS ys).2).2 = wr2 at *
              have cr0 := hr2.c0
              have cr1 := hr2.c1
              have cs0 := hs2.c0
              have cs1 := hs2.c1
              have hne := bool_neq wr2
              have hne2 := bool_neq (zs.isEmpty && !wr2)
              have hbd := fun n => below_drewN (Below.refl w2.heap.size w2) n
              have QS : Hid (∀ n, Calls Tryd.prog 15 #[v1, v2] (w2.drewN n) fun e w' => e = .returned (.bool true) ∧ w' = w2.drewN n) := fun n => by
                have h := same_any v1 v2 zs zs (w2.drewN n) ((hr2.has.has (Nat.le_of_lt hr2.lt)).below (hbd n) (Nat.le_refl _)) ((hs2.has.has (Nat.le_of_lt hr2.lt)).below (hbd n) (Nat.le_refl _)) hB2 hB2
                rwa [listb] at h
              have QE : Hid (∀ n, Calls Tryd.prog 45 #[.pointer (some ⟨w.heap.size, 0, none⟩)] (w2.drewN n) fun e w' => e = .returned (.bool (zs.isEmpty && !wr2)) ∧ w' = w2.drewN n) := fun n => end_any _ _ _ v1 zs wr2 (hr2.below (hbd n) hr2.lt)
              have QF : Hid (∀ n, Calls Tryd.prog 46 #[.pointer (some ⟨w.heap.size + 1, 0, none⟩)] (w2.drewN n) fun e w' => e = .returned (.bool (zs.isEmpty && !wr2)) ∧ w' = w2.drewN n) := fun n => rend_any _ _ _ v2 zs wr2 (hs2.below (hbd n) hs2.lt)
              have HR2 : Hid (Rd w2 w.heap.size w.heap.size v1 zs wr2) := hr2
              have HS2 : Hid (Rd w2 (w.heap.size + 1) w.heap.size v2 zs wr2) := hs2
              have HI2 : Hid (Inv zs wr2) := hI2
              generalize (zs.isEmpty && !wr2) = E at *
              clear hr2 hs2 hI2 hbd
              go_quiet (first | (go_at_call 15; exact Calls.quiet_of_same (QS.out _)) | (go_at_call 45; exact Calls.quiet_of_same (QE.out _)) | (go_at_call 46; exact Calls.quiet_of_same (QF.out _)))
              go_wp2
              go_roundw
              case rel => exact ⟨j + 1, zs, wr2, v1, v2, by omega, by go_num, HR2.out.below (below_drewN (Below.refl w2.heap.size w2) nq) HR2.out.lt, HS2.out.below (below_drewN (Below.refl w2.heap.size w2) nq) HS2.out.lt, HI2.out, hB2, by omega, below_drewN hb2 nq⟩
              case measure => simp [intOf]; omega
          · go_wp2_with (first
              | (go_at_call 39; refine (text_any _ w.heap.size w.heap.size vr ys wrong HRr.out hBy (by omega)).mono ?_; rintro e w1 ⟨rfl, ⟨v1, hr1⟩, hg1⟩; rw [HSR.out] at hr1 ⊢; have hs1 := HSs.out.grown hg1 (by omega) (Nat.le_refl _))
              | (go_at_call 40; refine (rtext_any _ (w.heap.size + 1) w.heap.size vs ys wrong hs1 HII.out hBy (by omega)).mono ?_; rintro e w2 ⟨rfl, ⟨v2, hs2⟩, hg2⟩; have hr2 := hr1.grown hg2 (by omega) (by omega); have hb2 : Below w.heap.size w w2 := (HBR.out.grown hg1 HBR.out.size (fun k hk => by cases hk; exact Nat.le_refl _)).grown hg2 (Nat.le_trans HBR.out.size hg1.size) (fun k hk => by cases hk; omega)))
            all_goals
              have hI2 := HII.out.lose (getTextS ys).2
              have hB2 := loseS_isB hBy wrong (getTextS ys).2
              have hl2 := loseS_length ys wrong (getTextS ys).2
              clear hr1 hs1 hg1 hg2 HRr HSs HSR HII HBR hcj2
              generalize (loseS ys wrong (getTextS ys).2).1 = zs at *
              generalize (loseS ys wrong (getTextS ys).2).2 = wr2 at *
              have cr0 := hr2.c0
              have cr1 := hr2.c1
              have cs0 := hs2.c0
              have cs1 := hs2.c1
              have hne := bool_neq wr2
              have hne2 := bool_neq (zs.isEmpty && !wr2)
              have hbd := fun n => below_drewN (Below.refl w2.heap.size w2) n
              have QS : Hid (∀ n, Calls Tryd.prog 15 #[v1, v2] (w2.drewN n) fun e w' => e = .returned (.bool true) ∧ w' = w2.drewN n) := fun n => by
                have h := same_any v1 v2 zs zs (w2.drewN n) ((hr2.has.has (Nat.le_of_lt hr2.lt)).below (hbd n) (Nat.le_refl _)) ((hs2.has.has (Nat.le_of_lt hr2.lt)).below (hbd n) (Nat.le_refl _)) hB2 hB2
                rwa [listb] at h
              have QE : Hid (∀ n, Calls Tryd.prog 45 #[.pointer (some ⟨w.heap.size, 0, none⟩)] (w2.drewN n) fun e w' => e = .returned (.bool (zs.isEmpty && !wr2)) ∧ w' = w2.drewN n) := fun n => end_any _ _ _ v1 zs wr2 (hr2.below (hbd n) hr2.lt)
              have QF : Hid (∀ n, Calls Tryd.prog 46 #[.pointer (some ⟨w.heap.size + 1, 0, none⟩)] (w2.drewN n) fun e w' => e = .returned (.bool (zs.isEmpty && !wr2)) ∧ w' = w2.drewN n) := fun n => rend_any _ _ _ v2 zs wr2 (hs2.below (hbd n) hs2.lt)
              have HR2 : Hid (Rd w2 w.heap.size w.heap.size v1 zs wr2) := hr2
              have HS2 : Hid (Rd w2 (w.heap.size + 1) w.heap.size v2 zs wr2) := hs2
              have HI2 : Hid (Inv zs wr2) := hI2
              generalize (zs.isEmpty && !wr2) = E at *
              clear hr2 hs2 hI2 hbd
              go_quiet (first | (go_at_call 15; exact Calls.quiet_of_same (QS.out _)) | (go_at_call 45; exact Calls.quiet_of_same (QE.out _)) | (go_at_call 46; exact Calls.quiet_of_same (QF.out _)))
              go_wp2
              go_roundw
              case rel => exact ⟨j + 1, zs, wr2, v1, v2, by omega, by go_num, HR2.out.below (below_drewN (Below.refl w2.heap.size w2) nq) HR2.out.lt, HS2.out.below (below_drewN (Below.refl w2.heap.size w2) nq) HS2.out.lt, HI2.out, hB2, by omega, below_drewN hb2 nq⟩
              case measure => simp [intOf]; omega
          · go_wp2_with (first
              | (go_at_call 39; refine (text_any _ w.heap.size w.heap.size vr ys wrong HRr.out hBy (by omega)).mono ?_; rintro e w1 ⟨rfl, ⟨v1, hr1⟩, hg1⟩; rw [HSR.out] at hr1 ⊢; have hs1 := HSs.out.grown hg1 (by omega) (Nat.le_refl _))
              | (go_at_call 40; refine (rtext_any _ (w.heap.size + 1) w.heap.size vs ys wrong hs1 HII.out hBy (by omega)).mono ?_; rintro e w2 ⟨rfl, ⟨v2, hs2⟩, hg2⟩; have hr2 := hr1.grown hg2 (by omega) (by omega); have hb2 : Below w.heap.size w w2 := (HBR.out.grown hg1 HBR.out.size (fun k hk => by cases hk; exact Nat.le_refl _)).grown hg2 (Nat.le_trans HBR.out.size hg1.size) (fun k hk => by cases hk; omega)))
            all_goals
              have hI2 := HII.out.lose (getTextS ys).2
              have hB2 := loseS_isB hBy wrong (getTextS ys).2
              have hl2 := loseS_length ys wrong (getTextS ys).2
              clear hr1 hs1 hg1 hg2 HRr HSs HSR HII HBR hcj2
              generalize (loseS ys wrong (getTextS ys).2).1 = zs at *
              generalize (loseS ys wrong (getTextS ys).2).2 = wr2 at *
              have cr0 := hr2.c0
              have cr1 := hr2.c1
              have cs0 := hs2.c0
              have cs1 := hs2.c1
              have hne := bool_neq wr2
              have hne2 := bool_neq (zs.isEmpty && !wr2)
              have hbd := fun n => below_drewN (Below.refl w2.heap.size w2) n
              have QS : Hid (∀ n, Calls Tryd.prog 15 #[v1, v2] (w2.drewN n) fun e w' => e = .returned (.bool true) ∧ w' = w2.drewN n) := fun n => by
                have h := same_any v1 v2 zs zs (w2.drewN n) ((hr2.has.has (Nat.le_of_lt hr2.lt)).below (hbd n) (Nat.le_refl _)) ((hs2.has.has (Nat.le_of_lt hr2.lt)).below (hbd n) (Nat.le_refl _)) hB2 hB2
                rwa [listb] at h
              have QE : Hid (∀ n, Calls Tryd.prog 45 #[.pointer (some ⟨w.heap.size, 0, none⟩)] (w2.drewN n) fun e w' => e = .returned (.bool (zs.isEmpty && !wr2)) ∧ w' = w2.drewN n) := fun n => end_any _ _ _ v1 zs wr2 (hr2.below (hbd n) hr2.lt)
              have QF : Hid (∀ n, Calls Tryd.prog 46 #[.pointer (some ⟨w.heap.size + 1, 0, none⟩)] (w2.drewN n) fun e w' => e = .returned (.bool (zs.isEmpty && !wr2)) ∧ w' = w2.drewN n) := fun n => rend_any _ _ _ v2 zs wr2 (hs2.below (hbd n) hs2.lt)
              have HR2 : Hid (Rd w2 w.heap.size w.heap.size v1 zs wr2) := hr2
              have HS2 : Hid (Rd w2 (w.heap.size + 1) w.heap.size v2 zs wr2) := hs2
              have HI2 : Hid (Inv zs wr2) := hI2
              generalize (zs.isEmpty && !wr2) = E at *
              clear hr2 hs2 hI2 hbd
              go_quiet (first | (go_at_call 15; exact Calls.quiet_of_same (QS.out _)) | (go_at_call 45; exact Calls.quiet_of_same (QE.out _)) | (go_at_call 46; exact Calls.quiet_of_same (QF.out _)))
              go_wp2
              go_roundw
              case rel => exact ⟨j + 1, zs, wr2, v1, v2, by omega, by go_num, HR2.out.below (below_drewN (Below.refl w2.heap.size w2) nq) HR2.out.lt, HS2.out.below (below_drewN (Below.refl w2.heap.size w2) nq) HS2.out.lt, HI2.out, hB2, by omega, below_drewN hb2 nq⟩
              case measure => simp [intOf]; omega
          · go_wp2_with (first
              | (go_at_call 41; refine (bool_any _ w.heap.size w.heap.size vr ys wrong HRr.out hBy (by omega)).mono ?_; rintro e w1 ⟨rfl, ⟨v1, hr1⟩, hg1⟩; rw [HSR.out] at hr1 ⊢; have hs1 := HSs.out.grown hg1 (by omega) (Nat.le_refl _))
              | (go_at_call 42; refine (rbool_any _ (w.heap.size + 1) w.heap.size vs ys wrong hs1 HII.out hBy (by omega)).mono ?_; rintro e w2 ⟨rfl, ⟨v2, hs2⟩, hg2⟩; have hr2 := hr1.grown hg2 (by omega) (by omega); have hb2 : Below w.heap.size w w2 := (HBR.out.grown hg1 HBR.out.size (fun k hk => by cases hk; exact Nat.le_refl _)).grown hg2 (Nat.le_trans HBR.out.size hg1.size) (fun k hk => by cases hk; omega)))
            all_goals
              have hI2 := HII.out.lose (getBoolS ys).2
              have hB2 := loseS_isB hBy wrong (getBoolS ys).2
              have hl2 := loseS_length ys wrong (getBoolS ys).2
              clear hr1 hs1 hg1 hg2 HRr HSs HSR HII HBR hcj2
              generalize (loseS ys wrong (getBoolS ys).2).1 = zs at *
              generalize (loseS ys wrong (getBoolS ys).2).2 = wr2 at *
              have cr0 := hr2.c0
              have cr1 := hr2.c1
              have cs0 := hs2.c0
              have cs1 := hs2.c1
              have hne := bool_neq wr2
              have hne2 := bool_neq (zs.isEmpty && !wr2)
              have hbd := fun n => below_drewN (Below.refl w2.heap.size w2) n
              have QS : Hid (∀ n, Calls Tryd.prog 15 #[v1, v2] (w2.drewN n) fun e w' => e = .returned (.bool true) ∧ w' = w2.drewN n) := fun n => by
                have h := same_any v1 v2 zs zs (w2.drewN n) ((hr2.has.has (Nat.le_of_lt hr2.lt)).below (hbd n) (Nat.le_refl _)) ((hs2.has.has (Nat.le_of_lt hr2.lt)).below (hbd n) (Nat.le_refl _)) hB2 hB2
                rwa [listb] at h
              have QE : Hid (∀ n, Calls Tryd.prog 45 #[.pointer (some ⟨w.heap.size, 0, none⟩)] (w2.drewN n) fun e w' => e = .returned (.bool (zs.isEmpty && !wr2)) ∧ w' = w2.drewN n) := fun n => end_any _ _ _ v1 zs wr2 (hr2.below (hbd n) hr2.lt)
              have QF : Hid (∀ n, Calls Tryd.prog 46 #[.pointer (some ⟨w.heap.size + 1, 0, none⟩)] (w2.drewN n) fun e w' => e = .returned (.bool (zs.isEmpty && !wr2)) ∧ w' = w2.drewN n) := fun n => rend_any _ _ _ v2 zs wr2 (hs2.below (hbd n) hs2.lt)
              have HR2 : Hid (Rd w2 w.heap.size w.heap.size v1 zs wr2) := hr2
              have HS2 : Hid (Rd w2 (w.heap.size + 1) w.heap.size v2 zs wr2) := hs2
              have HI2 : Hid (Inv zs wr2) := hI2
              generalize (zs.isEmpty && !wr2) = E at *
              clear hr2 hs2 hI2 hbd
              go_quiet (first | (go_at_call 15; exact Calls.quiet_of_same (QS.out _)) | (go_at_call 45; exact Calls.quiet_of_same (QE.out _)) | (go_at_call 46; exact Calls.quiet_of_same (QF.out _)))
              go_wp2
              go_roundw
              case rel => exact ⟨j + 1, zs, wr2, v1, v2, by omega, by go_num, HR2.out.below (below_drewN (Below.refl w2.heap.size w2) nq) HR2.out.lt, HS2.out.below (below_drewN (Below.refl w2.heap.size w2) nq) HS2.out.lt, HI2.out, hB2, by omega, below_drewN hb2 nq⟩
              case measure => simp [intOf]; omega
          · go_wp2_with (first
              | (go_at_call 43; refine (count_any kk _ w.heap.size w.heap.size vr ys wrong HRr.out hBy (by omega) (by omega)).mono ?_; rintro e w1 ⟨rfl, ⟨v1, hr1⟩, hg1⟩; rw [HSR.out] at hr1 ⊢; have hs1 := HSs.out.grown hg1 (by omega) (Nat.le_refl _))
              | (go_at_call 44; refine (rcount_any kk _ (w.heap.size + 1) w.heap.size vs ys wrong hs1 HII.out hBy (by omega) (by omega)).mono ?_; rintro e w2 ⟨rfl, ⟨v2, hs2⟩, hg2⟩; have hr2 := hr1.grown hg2 (by omega) (by omega); have hb2 : Below w.heap.size w w2 := (HBR.out.grown hg1 HBR.out.size (fun k hk => by cases hk; exact Nat.le_refl _)).grown hg2 (Nat.le_trans HBR.out.size hg1.size) (fun k hk => by cases hk; omega)))
            all_goals
              have hI2 := HII.out.lose (countS kk ys).2
              have hB2 := loseS_isB hBy wrong (countS kk ys).2
              have hl2 := loseS_length ys wrong (countS kk ys).2
              clear hr1 hs1 hg1 hg2 HRr HSs HSR HII HBR hcj2
              generalize (loseS ys wrong (countS kk ys).2).1 = zs at *
              generalize (loseS ys wrong (countS kk ys).2).2 = wr2 at *
              have cr0 := hr2.c0
              have cr1 := hr2.c1
              have cs0 := hs2.c0
              have cs1 := hs2.c1
              have hne := bool_neq wr2
              have hne2 := bool_neq (zs.isEmpty && !wr2)
              have hbd := fun n => below_drewN (Below.refl w2.heap.size w2) n
              have QS : Hid (∀ n, Calls Tryd.prog 15 #[v1, v2] (w2.drewN n) fun e w' => e = .returned (.bool true) ∧ w' = w2.drewN n) := fun n => by
                have h := same_any v1 v2 zs zs (w2.drewN n) ((hr2.has.has (Nat.le_of_lt hr2.lt)).below (hbd n) (Nat.le_refl _)) ((hs2.has.has (Nat.le_of_lt hr2.lt)).below (hbd n) (Nat.le_refl _)) hB2 hB2
                rwa [listb] at h
              have QE : Hid (∀ n, Calls Tryd.prog 45 #[.pointer (some ⟨w.heap.size, 0, none⟩)] (w2.drewN n) fun e w' => e = .returned (.bool (zs.isEmpty && !wr2)) ∧ w' = w2.drewN n) := fun n => end_any _ _ _ v1 zs wr2 (hr2.below (hbd n) hr2.lt)
              have QF : Hid (∀ n, Calls Tryd.prog 46 #[.pointer (some ⟨w.heap.size + 1, 0, none⟩)] (w2.drewN n) fun e w' => e = .returned (.bool (zs.isEmpty && !wr2)) ∧ w' = w2.drewN n) := fun n => rend_any _ _ _ v2 zs wr2 (hs2.below (hbd n) hs2.lt)
              have HR2 : Hid (Rd w2 w.heap.size w.heap.size v1 zs wr2) := hr2
              have HS2 : Hid (Rd w2 (w.heap.size + 1) w.heap.size v2 zs wr2) := hs2
              have HI2 : Hid (Inv zs wr2) := hI2
              generalize (zs.isEmpty && !wr2) = E at *
              clear hr2 hs2 hI2 hbd
              go_quiet (first | (go_at_call 15; exact Calls.quiet_of_same (QS.out _)) | (go_at_call 45; exact Calls.quiet_of_same (QE.out _)) | (go_at_call 46; exact Calls.quiet_of_same (QF.out _)))
              go_wp2
              go_roundw
              case rel => exact ⟨j + 1, zs, wr2, v1, v2, by omega, by go_num, HR2.out.below (below_drewN (Below.refl w2.heap.size w2) nq) HR2.out.lt, HS2.out.below (below_drewN (Below.refl w2.heap.size w2) nq) HS2.out.lt, HI2.out, hB2, by omega, below_drewN hb2 nq⟩
              case measure => simp [intOf]; omega
          · go_wp2_with (first
              | (go_at_call 43; refine (count_any kk _ w.heap.size w.heap.size vr ys wrong HRr.out hBy (by omega) (by omega)).mono ?_; rintro e w1 ⟨rfl, ⟨v1, hr1⟩, hg1⟩; rw [HSR.out] at hr1 ⊢; have hs1 := HSs.out.grown hg1 (by omega) (Nat.le_refl _))
              | (go_at_call 44; refine (rcount_any kk _ (w.heap.size + 1) w.heap.size vs ys wrong hs1 HII.out hBy (by omega) (by omega)).mono ?_; rintro e w2 ⟨rfl, ⟨v2, hs2⟩, hg2⟩; have hr2 := hr1.grown hg2 (by omega) (by omega); have hb2 : Below w.heap.size w w2 := (HBR.out.grown hg1 HBR.out.size (fun k hk => by cases hk; exact Nat.le_refl _)).grown hg2 (Nat.le_trans HBR.out.size hg1.size) (fun k hk => by cases hk; omega)))
            all_goals
              have hI2 := HII.out.lose (countS kk ys).2
              have hB2 := loseS_isB hBy wrong (countS kk ys).2
              have hl2 := loseS_length ys wrong (countS kk ys).2
              clear hr1 hs1 hg1 hg2 HRr HSs HSR HII HBR hcj2
              generalize (loseS ys wrong (countS kk ys).2).1 = zs at *
              generalize (loseS ys wrong (countS kk ys).2).2 = wr2 at *
              have cr0 := hr2.c0
              have cr1 := hr2.c1
              have cs0 := hs2.c0
              have cs1 := hs2.c1
              have hne := bool_neq wr2
              have hne2 := bool_neq (zs.isEmpty && !wr2)
              have hbd := fun n => below_drewN (Below.refl w2.heap.size w2) n
              have QS : Hid (∀ n, Calls Tryd.prog 15 #[v1, v2] (w2.drewN n) fun e w' => e = .returned (.bool true) ∧ w' = w2.drewN n) := fun n => by
                have h := same_any v1 v2 zs zs (w2.drewN n) ((hr2.has.has (Nat.le_of_lt hr2.lt)).below (hbd n) (Nat.le_refl _)) ((hs2.has.has (Nat.le_of_lt hr2.lt)).below (hbd n) (Nat.le_refl _)) hB2 hB2
                rwa [listb] at h
              have QE : Hid (∀ n, Calls Tryd.prog 45 #[.pointer (some ⟨w.heap.size, 0, none⟩)] (w2.drewN n) fun e w' => e = .returned (.bool (zs.isEmpty && !wr2)) ∧ w' = w2.drewN n) := fun n => end_any _ _ _ v1 zs wr2 (hr2.below (hbd n) hr2.lt)
              have QF : Hid (∀ n, Calls Tryd.prog 46 #[.pointer (some ⟨w.heap.size + 1, 0, none⟩)] (w2.drewN n) fun e w' => e = .returned (.bool (zs.isEmpty && !wr2)) ∧ w' = w2.drewN n) := fun n => rend_any _ _ _ v2 zs wr2 (hs2.below (hbd n) hs2.lt)
              have HR2 : Hid (Rd w2 w.heap.size w.heap.size v1 zs wr2) := hr2
              have HS2 : Hid (Rd w2 (w.heap.size + 1) w.heap.size v2 zs wr2) := hs2
              have HI2 : Hid (Inv zs wr2) := hI2
              generalize (zs.isEmpty && !wr2) = E at *
              clear hr2 hs2 hI2 hbd
              go_quiet (first | (go_at_call 15; exact Calls.quiet_of_same (QS.out _)) | (go_at_call 45; exact Calls.quiet_of_same (QE.out _)) | (go_at_call 46; exact Calls.quiet_of_same (QF.out _)))
              go_wp2
              go_roundw
              case rel => exact ⟨j + 1, zs, wr2, v1, v2, by omega, by go_num, HR2.out.below (below_drewN (Below.refl w2.heap.size w2) nq) HR2.out.lt, HS2.out.below (below_drewN (Below.refl w2.heap.size w2) nq) HS2.out.lt, HI2.out, hB2, by omega, below_drewN hb2 nq⟩
              case measure => simp [intOf]; omega
        · obtain rfl : j = len1 := by omega
          go_wp2_with (go_at_call 9; refine (lives_any _ (hT.below hbr (Nat.le_refl _))).mono ?_; rintro e w1 ⟨rfl, hb1⟩)
          go_ret
          exact ⟨rfl, hbr.trans (hb1.mono hbr.size)⟩
end Go.Proofs.YtmlekbabofldoaaDoor
