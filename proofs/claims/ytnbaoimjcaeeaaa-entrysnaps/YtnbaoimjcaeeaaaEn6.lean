/-
  Contracts: what lives and weight of the statements of stage 10 tell.
-/
import Derived.Test.YtnbaoimjcaeeaaaEn3
import Derived.Test.YtnbaoimjcaeeaaaEn4
namespace Go.Proofs.Ytnbaoimjcaeeaaa
open Go.RowKit Go.Shelf

def oneE10 : EntV := ⟨1, 1, 1, zeroC9, noFV⟩
theorem fits_zeroC : Fits9 zeroC9 := ⟨by decide, by decide, by decide, by decide, ⟨by decide, by decide⟩, ⟨by decide, by decide⟩, ⟨by decide, by decide⟩, ⟨by decide, by decide⟩⟩
theorem oneE_fits (W : World) : FitsE W oneE10 := ⟨⟨by decide, by decide⟩, ⟨by decide, by decide⟩, ⟨by decide, by decide⟩, fits_zeroC, FitsF.nil W⟩
theorem oneE_good : goodE10 oneE10.e = true := by decide +kernel
theorem oneE_bytes : entB oneE10.e = [2, 2, 2] := by decide +kernel

set_option maxRecDepth 100000 in
set_option maxHeartbeats 2000000 in
theorem lives10_any (w : World) : Calls Try.prog 8 #[] w fun e w' => e = .returned (.bool true) ∧ Below w.heap.size w w' := by
  have k1 := fun W => goodE_any oneE10 W (oneE_fits W)
  have k2 := fun W => bytesE_any W oneE10 (FitsF.nil W) ⟨by decide, by decide⟩ ⟨by decide, by decide, by decide, by decide⟩
  have k3 := fun W => goodConf_any noFV W (FitsF.nil W)
  have k4 := fun (W : World) => goodConf_any ⟨⟨some ⟨W.heap.size, 0, none⟩, 2, 2⟩, nilS10, ⟨[1, 3], []⟩⟩ (W.alloc (.cells #[.int .i64 1, .int .i64 3] 3)) ⟨HasI.lit W [1, 3] 3, HasI.nil _, (fun n h => by
    simp only [List.mem_cons, List.not_mem_nil, or_false] at h
    rcases h with rfl | rfl <;> exact ⟨by decide, by decide⟩), (fun _ h => by cases h), Nat.le_of_ble_eq_true rfl, Nat.le_of_ble_eq_true rfl⟩
  dsimp only at k4
  rw [oneE_good] at k1
  rw [oneE_bytes] at k2
  rw [show goodF10 noFV.f = false by decide +kernel] at k3
  rw [show goodF10 ⟨[1, 3], []⟩ = true by decide +kernel] at k4
  have hbox : EntAt (w.alloc (.cells oneE10.arr 28)) w.heap.size oneE10 := heap_alloc_new w _
  have hb1 : Below w.heap.size w (w.alloc (.cells oneE10.arr 28)) := (Below.refl _ _).alloc (Nat.le_refl _) _
  have hbz := hb1.size
  unfold oneE10 noFV zeroC9 nilS10 at *
  unfold EntV.arr ConfV.arr at *
  dsimp only at *
  go_enter Try.func8, Try.ntmps8
  go_wp2_with fail
  refine (k1 _).mono ?_
  rintro e w2 ⟨rfl, hb2⟩
  have hbox2 := box_below hbox hb2
  have hB2 := hb1.trans (hb2.mono hbz)
  have e2 : EntAt w2 w.heap.size ⟨1, 1, 1, ⟨0, 0, 0, em9, em9, em9, em9, 0⟩, ⟨⟨none, 0, 0⟩, ⟨none, 0, 0⟩, noF10⟩⟩ := hbox2
  obtain ⟨c0, c1, c2, c3, c4, c5, c6, c7, c8, c9, c10, c11, c12⟩ := e2.cells
  dsimp only at c0 c1 c2 c3 c4 c5 c6 c7 c8 c9 c10 c11 c12
  have hlt := box_lt hbox2
  clear k1 hbox hb2 hbox2 e2
  go_wp2_with fail
  refine (k2 _).mono ?_
  rintro e w3 ⟨v3, rfl, ho3, hb3⟩
  have hB3 := hB2.trans (hb3.mono hB2.size)
  obtain ⟨p3, q3, rfl, -, -, -⟩ := id ho3.has
  have h3 := ho3.has.below ((Below.refl w3.heap.size w3).alloc (Nat.le_refl _) (.cells #[.int .u8 2, .int .u8 2, .int .u8 2] 5)) (Nat.le_refl _)
  have hl3 : Has (w3.alloc (.cells #[.int .u8 2, .int .u8 2, .int .u8 2] 5)) (.slice (some ⟨w3.heap.size, 0, none⟩) 3 3) [2, 2, 2] := Has.lit w3 [2, 2, 2] 5
  have hB4 : Below w.heap.size w (w3.alloc (.cells #[.int .u8 2, .int .u8 2, .int .u8 2] 5)) := hB3.trans (((Below.refl w3.heap.size w3).alloc (Nat.le_refl _) _).mono hB3.size)
  have k5 := same_any _ _ _ _ _ h3 hl3 (by intro x hx; simp only [List.mem_cons, List.not_mem_nil, or_false] at hx; omega) (by intro x hx; simp only [List.mem_cons, List.not_mem_nil, or_false] at hx; omega)
  rw [beq_self_eq_true] at k5
  clear k2 c0 c1 c2 c3 c4 c5 c6 c7 c8 c9 c10 c11 c12 hb3 ho3 h3 hl3
  go_wp2_with fail
  generalize w3.alloc (.cells #[.int .u8 2, .int .u8 2, .int .u8 2] 5) = w4 at *
  refine same_mono k5 ?_
  go_wp2_with fail
  refine (k3 _).mono ?_
  rintro e w5 ⟨rfl, hb5⟩
  have hB5 := hB4.trans (hb5.mono hB4.size)
  have k6 := k4 w5
  have hB6 : Below w.heap.size w (w5.alloc (.cells #[.int .i64 1, .int .i64 3] 3)) := hB5.trans (((Below.refl w5.heap.size w5).alloc (Nat.le_refl _) _).mono hB5.size)
  clear k3 k4 k5 hb5
  go_wp2_with fail
  generalize w5.alloc (.cells #[.int .i64 1, .int .i64 3] 3) = w6 at *
  refine k6.mono ?_
  rintro e w7 ⟨rfl, hb7⟩
  go_wp2
  go_ret
  exact ⟨rfl, hB6.trans (hb7.mono hB6.size)⟩

/-- How much an entry has. -/
def weightE (x : Ent10) : Nat := 1 + (x.c.key.size + x.c.old.size + x.c.val.size + x.c.unt.size) / 20 + x.f.vs.length + x.f.ls.length
theorem weight_few {x : Ent10} {n : Nat} (h : weightE x ≤ n) (hn : n ≤ 400) : FewF x.f ∧ FewC x.c := by
  unfold weightE at h
  exact ⟨⟨by omega, by omega⟩, ⟨by omega, by omega, by omega, by omega⟩⟩

set_option maxRecDepth 100000 in
set_option maxHeartbeats 2000000 in
theorem weight_any (x : EntV) (w : World) (h : FitsE w x) : Calls Try.prog 7 #[.agg x.arr] w fun e w' => e = .returned (.int .i64 (weightE x.e : Nat)) ∧ Below w.heap.size w w' := by
  have hb1 : Below w.heap.size w (w.alloc (.cells x.arr 28)) := (Below.refl _ _).alloc (Nat.le_refl _) _
  have hbz := hb1.size
  obtain ⟨s1, s2, s3, s4, -⟩ := h.c
  have hn := h.f.u.len.1
  have hm := h.f.v.len.1
  have l1 := h.f.lu
  have l2 := h.f.lv
  obtain ⟨W, HW⟩ : ∃ W : Nat, Hid (weightE x.e = W) := ⟨_, rfl⟩
  have HQ : ∃ q : Nat, ((x.c.key.size : Int) + (x.c.old.size : Int) + (x.c.val.size : Int) + (x.c.unt.size : Int)).tdiv 20 = (q : Int) ∧ q ≤ 1125899906842624 ∧ Hid (W = 1 + q + x.f.u.n + x.f.v.n) := by
    refine ⟨(x.c.key.size + x.c.old.size + x.c.val.size + x.c.unt.size) / 20, ?_, by omega, ?_⟩
    · rw [Int.tdiv_eq_ediv_of_nonneg (by omega)]
      omega
    · rw [Hid, ← HW.out, ← hn, ← hm]
      rfl
  obtain ⟨q, hq, hq2, HE⟩ := HQ
  rw [hn] at l1
  rw [hm] at l2
  rw [HW.out]
  clear HW h hn hm
  have hb2 : ∀ o : Obj, Below w.heap.size w ((w.alloc (.cells x.arr 28)).alloc o) := fun o => hb1.trans (((Below.refl _ _).alloc (Nat.le_refl _) o).mono hbz)
  obtain ⟨i, t, k, ⟨ck, cs, cq, ckey, cold, cval, cunt, clim⟩, ⟨⟨p, n, c⟩, ⟨q', m, d⟩, f⟩⟩ := x
  unfold EntV.arr at *
  dsimp only at *
  go_enter Try.func7, Try.ntmps7
  go_wp2
  go_ret
  refine ⟨ret_int ?_, hb2 _⟩
  rw [HE.out]
  omega
end Go.Proofs.Ytnbaoimjcaeeaaa
