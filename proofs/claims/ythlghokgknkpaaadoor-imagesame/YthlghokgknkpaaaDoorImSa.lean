/-
  The walk of corbellaw07.ImageSame.
-/
import Derived.Test.YthlghokgknkpaaaDoorEndITo
import Derived.Test.YthlghokgknkpaaaDoorEndITo
namespace Go.Proofs.YthlghokgknkpaaaDoor
open Go.RowKit Go.Shelf Go.Lib

theorem new7 (k0 k1 hint : Int) (w : World) (h : hint = 0 ∨ hint = 20 ∨ hint = 50) :
    Calls Tryd.prog 6 #[.agg #[.int .u64 k0, .int .u64 k1], .int .i64 hint] w fun e w' => ∃ b bw bs g, e = .returned (.pointer (some ⟨b, 0, none⟩)) ∧
      Lies 60 56 w' b bw bs (SM.empty k0 k1 (.string ⟨#[]⟩) g) ∧ isGood (g : Int) = true ∧ w.heap.size ≤ b ∧ w.heap.size ≤ bw ∧ w.heap.size ≤ bs ∧ Below w.heap.size w w' := by
  have hne : needI hint ≠ 0 := by rcases h with rfl | rfl | rfl <;> decide
  have hgd : isGood (((needI hint).toNat : Nat) : Int) = true := by rcases h with rfl | rfl | rfl <;> decide
  refine (new_any_s k0 k1 hint w (by omega) (by omega) hne).mono ?_
  rintro e w' ⟨b, bw, bs, h1, h2, h3, h4, h5, h6⟩
  exact ⟨b, bw, bs, _, h1, h2, hgd, h3, h4, h5, h6⟩
theorem Two7.put2 {w wr : World} {b c d e : Nat} {M N : SM} (h : Two7 w wr b c M d e N) (hT : Tab w) (hc : c < 2000) (p : ByteArray × ByteArray) (hp : p.1.size ≤ 131072 ∧ p.2.size ≤ 131072) :
    Calls Tryd.prog 9 #[.pointer (some ⟨b, 0, none⟩), .string p.1, .string p.2] wr fun e' w' => (∃ x y, e' = .returned (.tuple #[.bool x, .int .i64 y])) ∧ Two7 w w' b (c + 1) (putP M p) d e N ∧ Kinds [60, 22, 56] wr w' := by
  obtain ⟨⟨bw, bs, dw, ds, h1, h2, h3⟩, h4, h5, h6⟩ := h
  refine (put_any_s b bw bs M p.1 p.2 wr (hT.below h6 hT.1) h1 (sane_of_inv h4.inv) (by omega)).mono ?_
  rintro e w' ⟨rfl, bw', bs', f1, f2, f3, f4⟩
  have := h6.size
  have hl2 := h2.lt
  unfold Apart6 at h3
  refine ⟨⟨_, _, rfl⟩, ⟨⟨bw', bs', dw, ds, f1, h2.but f2 (by simp; omega) (by simp; omega) (by simp; omega), ?_⟩, fine_putP h4 hc p hp, h5, h6.trans (f2.below (by simp; omega) h6.size)⟩, Kinds.of h1 f2⟩
  unfold Apart6
  omega
theorem two7_new {w W0 u u2 : World} {c1 cw1 cs1 g b bw bs g2 : Nat} {k0 k1 l0 l1 : Int} (hB0 : Below w.heap.size w W0) (hl1 : Lies 60 56 u c1 cw1 cs1 (SM.empty k0 k1 (.string ⟨#[]⟩) g)) (hz : isGood (g : Int) = true) (f1 : W0.heap.size ≤ c1) (f2 : W0.heap.size ≤ cw1) (f3 : W0.heap.size ≤ cs1) (hb1 : Below W0.heap.size W0 u)
    (hl : Lies 60 56 u2 b bw bs (SM.empty l0 l1 (.string ⟨#[]⟩) g2)) (hz2 : isGood (g2 : Int) = true) (g1 : u.heap.size ≤ b) (h2 : u.heap.size ≤ bw) (g3 : u.heap.size ≤ bs) (hb : Below u.heap.size u u2) :
    Two7 w u2 c1 0 (SM.empty k0 k1 (.string ⟨#[]⟩) g) b 0 (SM.empty l0 l1 (.string ⟨#[]⟩) g2) :=
  (one7_new hB0 hl1 hz f1 f2 f3 hb1).more hl (fine_empty l0 l1 g2 hz2) g1 h2 g3 hb
/-- Two maps that have just been made, and a box beside them. -/
def New2 (w : World) (s : Nat) (c0 c1 : Value) (t : TypeId) (k0 k1 l0 l1 : Int) (b1 b2 : Nat) (Y : World) : Prop :=
  (∃ g g2 : Nat, isGood (g : Int) = true ∧ isGood (g2 : Int) = true ∧ Two7 w Y b1 0 (SM.empty k0 k1 (.string ⟨#[]⟩) g) b2 0 (SM.empty l0 l1 (.string ⟨#[]⟩) g2)) ∧ Y.heap[s]? = some (.cells #[c0, c1] t (0, 0))
theorem boxes7 (w : World) (k0 k1 l0 l1 : Int) (x y : Value) (t : TypeId) : ∃ W, (((w.alloc (.cells #[.int .u64 k0, .int .u64 k1] 24)).alloc (.cells #[.int .u64 l0, .int .u64 l1] 24)).alloc (.cells #[x, y] t)) = W ∧ W.cell? ⟨w.heap.size, 0, none⟩ = some (.int .u64 k0) ∧ W.cell? ⟨w.heap.size, 1, none⟩ = some (.int .u64 k1) ∧ W.cell? ⟨w.heap.size + 1, 0, none⟩ = some (.int .u64 l0) ∧ W.cell? ⟨w.heap.size + 1, 1, none⟩ = some (.int .u64 l1) ∧
    W.heap[w.heap.size + 2]? = some (.cells #[x, y] t (0, 0)) ∧ W.heap.size = w.heap.size + 3 ∧ Below w.heap.size w W := by
  refine ⟨_, rfl, ?_⟩
  have h0 := heap_alloc_new w (.cells #[.int .u64 k0, .int .u64 k1] 24)
  have h1 := heap_alloc_new (w.alloc (.cells #[.int .u64 k0, .int .u64 k1] 24)) (.cells #[.int .u64 l0, .int .u64 l1] 24)
  have h2 := heap_alloc_new ((w.alloc (.cells #[.int .u64 k0, .int .u64 k1] 24)).alloc (.cells #[.int .u64 l0, .int .u64 l1] 24)) (.cells #[x, y] t)
  rw [World.size_alloc] at h1
  rw [World.size_alloc, World.size_alloc] at h2
  have g1 := (Below.heap_alloc ((w.alloc (.cells #[.int .u64 k0, .int .u64 k1] 24)).alloc (.cells #[.int .u64 l0, .int .u64 l1] 24)) (.cells #[x, y] t) (w.heap.size + 1) (by simp)).trans h1
  have g0 := ((Below.heap_alloc ((w.alloc (.cells #[.int .u64 k0, .int .u64 k1] 24)).alloc (.cells #[.int .u64 l0, .int .u64 l1] 24)) (.cells #[x, y] t) w.heap.size (by simp; omega)).trans (Below.heap_alloc (w.alloc (.cells #[.int .u64 k0, .int .u64 k1] 24)) (.cells #[.int .u64 l0, .int .u64 l1] 24) w.heap.size (by simp))).trans h0
  refine ⟨?_, ?_, ?_, ?_, h2, by simp, (((Below.refl _ _).alloc (Nat.le_refl _) _).alloc (by simp) _).alloc (by simp; omega) _⟩
  · unfold World.cell?; dsimp only; rw [g0]; rfl
  · unfold World.cell?; dsimp only; rw [g0]; rfl
  · unfold World.cell?; dsimp only; rw [g1]; rfl
  · unfold World.cell?; dsimp only; rw [g1]; rfl

set_option maxRecDepth 100000 in
set_option maxHeartbeats 4000000 in
theorem imageSame_any (k0 k1 l0 l1 : Int) (p : Option Addr) (n c : Nat) (xs : List (ByteArray × ByteArray)) (p' : Option Addr) (n' c' : Nat) (ys : List (ByteArray × ByteArray)) (w : World) (hT : Tab w)
    (_hk0 : 0 ≤ k0 ∧ k0 ≤ 18446744073709551615) (_hk1 : 0 ≤ k1 ∧ k1 ≤ 18446744073709551615) (_hl0 : 0 ≤ l0 ∧ l0 ≤ 18446744073709551615) (_hl1 : 0 ≤ l1 ∧ l1 ≤ 18446744073709551615)
    (hX : HasP w (.slice p n c) xs) (hXi : InP xs) (hn : (n : Int) ≤ 9223372036854775807) (hY : HasP w (.slice p' n' c') ys) (hYi : InP ys) (hn' : (n' : Int) ≤ 9223372036854775807) :
    Calls Tryd.prog 5 #[.agg #[.int .u64 k0, .int .u64 k1], .agg #[.int .u64 l0, .int .u64 l1], .agg #[.slice p n c, .slice p' n' c']] w fun e w' => e = .returned (.bool true) ∧ Below w.heap.size w w' := by
  have hw0 := hT.1
  obtain ⟨W0, hW0, a0, a1, b0, b1, q0, hz0, hB0⟩ := boxes7 w k0 k1 l0 l1 (.slice p n c) (.slice p' n' c') 50
  go_enter Tryd.func5, Tryd.ntmps5
  go_wp2_with fail
  clear hW0
  apply some_end (New2 w (w.heap.size + 2) (.slice p n c) (.slice p' n' c') 50 k0 k1 l0 l1)
  · have hlt1 : w.heap.size + 1 < W0.heap.size := by omega
    go_region_with (go_at_call 6; refine (new7 _ _ _ _ (by first | exact .inl rfl | exact .inr (.inl rfl))).mono ?_; rintro e u ⟨b, bw, bs, z, rfl, hl, hz, g1, g2, g3, hb⟩; try (have d0 := (hb.cell (p := ⟨w.heap.size + 1, 0, none⟩) hlt1).trans b0; have d1 := (hb.cell (p := ⟨w.heap.size + 1, 1, none⟩) hlt1).trans b1))
    all_goals
      rename_i u1 c1 cw1 cs1 z1 hl1 hz1 f1 f2 f3 hb1
      have e1 := hb1.size
      exact EndIn.mk c1 b ⟨⟨z1, z, hz1, hz, two7_new (W0 := W0.drew) ⟨hB0.os, hB0.tape, hB0.output, hB0.size, hB0.block⟩ hl1 hz1 f1 f2 f3 hb1 hl hz g1 g2 g3 hb⟩, ((hb.block _ (by have : W0.drew.heap.size = W0.heap.size := rfl; omega)).trans ((hb1.block _ (by have : W0.drew.heap.size = W0.heap.size := rfl; omega)).trans q0))⟩
  · clear a0 a1 b0 b1 q0 hz0 hB0
    rintro b d W ⟨⟨g, g2, hg, hg2, hD⟩, q⟩
    generalize hs : w.heap.size + 2 = s at *
    have Hs : Hid (w.heap.size + 2 = s) := hs
    clear hs
    have hqc : ∀ V : World, V.heap[s]? = some (.cells #[.slice p n c, .slice p' n' c'] 50 (0, 0)) → V.cell? ⟨s, 0, none⟩ = some (.slice p n c) ∧ V.cell? ⟨s, 1, none⟩ = some (.slice p' n' c') := fun V hV => ⟨by unfold World.cell?; dsimp only; rw [hV]; rfl, by unfold World.cell?; dsimp only; rw [hV]; rfl⟩
    have hql : ∀ V : World, V.heap[s]? = some (.cells #[.slice p n c, .slice p' n' c'] 50 (0, 0)) → s < V.heap.size := fun V hV => (Array.getElem?_eq_some_iff.1 hV).1
    have hlives := fun (W : World) (hW : Below w.heap.size w W) => lives7_any W (hT.below hW hw0)
    obtain ⟨e0, e1⟩ := hqc W q
    have hfew := fewL_any p n c xs W (hX.below hD.bel (Nat.le_refl _)) hXi hn
    go_wp2_with fail
    refine hfew.mono ?_
    rintro e w1 ⟨r1, rfl, hr1, hb1⟩
    replace hD := hD.below hb1
    replace q := (hb1.block s (hql _ q)).trans q
    clear hfew e0 e1 hb1
    cases r1 with
    | false =>
      go_wp2_with fail
      refine (hlives w1 hD.bel).mono ?_
      rintro e w2 ⟨rfl, hb2⟩
      go_wp2
      go_ret
      exact ⟨rfl, hD.bel.trans (hb2.mono hD.bel.size)⟩
    | true =>
      have Fx : Hid (FewL xs) := hr1 rfl
      clear hr1
      obtain ⟨e0, e1⟩ := hqc w1 q
      have hfew := fewL_any p' n' c' ys w1 (hY.below hD.bel (Nat.le_refl _)) hYi hn'
      go_wp2_with fail
      refine hfew.mono ?_
      rintro e w2 ⟨r2, rfl, hr2, hb2⟩
      replace hD := hD.below hb2
      replace q := (hb2.block s (hql _ q)).trans q
      clear hfew e0 e1 hb2
      cases r2 with
      | false =>
        go_wp2_with fail
        refine (hlives w2 hD.bel).mono ?_
        rintro e w3 ⟨rfl, hb3⟩
        go_wp2
        go_ret
        exact ⟨rfl, hD.bel.trans (hb3.mono hD.bel.size)⟩
      | true =>
        have Fy : Hid (FewL ys) := hr2 rfl
        clear hr2
        have Lx : Hid (xs.length = n) := hX.len.1.symm
        have Ly : Hid (ys.length = n') := hY.len.1.symm
        have hnx : n ≤ 300 := by rw [← Lx.out]; exact fewL_len Fx.out
        have hny : n' ≤ 300 := by rw [← Ly.out]; exact fewL_len Fy.out
        obtain ⟨e0, e1⟩ := hqc w2 q
        go_wp2
        go_loopw [48] (fun i wr => ∃ j : Nat, j ≤ n ∧ i = .int .i64 (j : Nat) ∧ Two7 w wr b j (putL (SM.empty k0 k1 (.string ⟨#[]⟩) g) (xs.take j)) d 0 (SM.empty l0 l1 (.string ⟨#[]⟩) g2) ∧ wr.heap[s]? = some (.cells #[.slice p n c, .slice p' n' c'] 50 (0, 0))) (fun i _ => n - (intOf i).toNat)
        case atStart => exact ⟨0, Nat.zero_le _, rfl, by rw [List.take_zero]; exact hD, q⟩
        case round =>
          clear hD q e0 e1
          obtain ⟨j, hj, rfl, hD, q⟩ := hrel
          by_cases hlt : j < n
          · obtain ⟨bb, oo, rfl, hbb, hcc, -, c1, c2⟩ := (hX.below hD.bel (Nat.le_refl _)).at (j := j) hlt
            have hjx : j < xs.length := by rw [Lx.out]; exact hlt
            have Ht : Hid (xs.take j ++ [xs.getD j default] = xs.take (j + 1)) := ptake_snoc hjx
            have hsz := fewL_size Fx.out (pgetD_mem hjx)
            clear hjx
            generalize xs.getD j default = x at *
            have hba : Below wr.heap.size wr (wr.alloc (.cells #[.string x.1, .string x.2] 33)) := (Below.refl _ _).alloc (Nat.le_refl _) _
            have hput := (hD.below hba).put2 hT (by omega) x ⟨by omega, by omega⟩
            have q' := (hba.block s (hql _ q)).trans q
            go_wp2_with fail
            generalize wr.alloc (.cells #[.string x.1, .string x.2] 33) = wa at *
            refine hput.mono ?_
            rintro e w3 ⟨⟨y1, y2, rfl⟩, hD3, hk3⟩
            have q3 := hk3 _ s _ _ (by decide) q'
            clear hput hD q q' hba c1 c2
            go_wp2
            go_roundw
            case rel => exact ⟨j + 1, by omega, by go_num, by rw [← Ht.out, putL_snoc]; exact hD3, q3⟩
            case measure => simp only [intOf]; omega
          · obtain rfl : j = n := by omega
            obtain ⟨e0, e1⟩ := hqc wr q
            rw [show xs.take j = xs by rw [← Lx.out, List.take_length]] at hD
            replace hD := hD.swap
            go_wp2
            go_loopw [62] (fun i wr => ∃ j' : Nat, j' ≤ n' ∧ i = .int .i64 (j' : Nat) ∧ Two7 w wr d j' (putL (SM.empty l0 l1 (.string ⟨#[]⟩) g2) (ys.take j')) b j (putL (SM.empty k0 k1 (.string ⟨#[]⟩) g) xs)) (fun i _ => n' - (intOf i).toNat)
            case atStart => exact ⟨0, Nat.zero_le _, rfl, by rw [List.take_zero]; exact hD⟩
            case round =>
              clear hD q e0 e1
              obtain ⟨j', hj', rfl, hD⟩ := hrel
              by_cases hlt' : j' < n'
              · obtain ⟨bb, oo, rfl, hbb, hcc, -, c1, c2⟩ := (hY.below hD.bel (Nat.le_refl _)).at (j := j') hlt'
                have hjx : j' < ys.length := by rw [Ly.out]; exact hlt'
                have Ht : Hid (ys.take j' ++ [ys.getD j' default] = ys.take (j' + 1)) := ptake_snoc hjx
                have hsz := fewL_size Fy.out (pgetD_mem hjx)
                clear hjx
                generalize ys.getD j' default = x at *
                have hba : Below wr.heap.size wr (wr.alloc (.cells #[.string x.1, .string x.2] 33)) := (Below.refl _ _).alloc (Nat.le_refl _) _
                have hput := (hD.below hba).put2 hT (by omega) x ⟨by omega, by omega⟩
                go_wp2_with fail
                generalize wr.alloc (.cells #[.string x.1, .string x.2] 33) = wa at *
                refine hput.mono ?_
                rintro e w3 ⟨⟨y1, y2, rfl⟩, hD3, hk3⟩
                clear hput hD hba c1 c2 hk3
                go_wp2
                go_roundw
                case rel => exact ⟨j' + 1, by omega, by go_num, by rw [← Ht.out, putL_snoc]; exact hD3⟩
                case measure => simp only [intOf]; omega
              · obtain rfl : j' = n' := by omega
                rw [show ys.take j' = ys by rw [← Ly.out, List.take_length]] at hD
                replace hD := hD.swap
                generalize putL (SM.empty k0 k1 (.string ⟨#[]⟩) g) xs = M at *
                generalize putL (SM.empty l0 l1 (.string ⟨#[]⟩) g2) ys = N at *
                have F1 := hD.one.fine
                have F2 := hD.swap.one.fine
                have hP1 := F1.few (by omega)
                have hP2 := F2.few (by omega)
                have hdc : decide (N.img = M.img) = decide (M.img = N.img) := by
                  by_cases h : M.img = N.img
                  · rw [decide_eq_true h, decide_eq_true h.symm]
                  · rw [decide_eq_false h, decide_eq_false (fun e => h e.symm)]
                have hxb := exp_beq hP1.small hP2.small (by have := hP1.1; omega) (by have := hP2.1; omega)
                have hl1 := hP1.1
                have hl2 := hP2.1
                have hS1 := hD.one.same hD.swap.one hT (by omega) (by omega)
                clear hX hY hXi hYi Fx Fy Lx Ly
                go_wp2_with fail
                refine hS1.mono ?_
                rintro e w4 ⟨rfl, hb4⟩
                have hD4 := hD.below hb4
                have hS2 := hD4.swap.one.same hD4.one hT (by omega) (by omega)
                rw [hdc] at hS2
                generalize hR : decide (M.img = N.img) = r at *
                have HR : Hid (decide (M.img = N.img) = r) := hR
                clear hR hS1 hb4 hD hdc
                cases r
                all_goals
                  go_wp2_with fail
                  refine hS2.mono ?_
                  rintro e w5 ⟨rfl, hb5⟩
                  have hD5 := hD4.below hb5
                  have hA := hD5.one.pairs hT
                  clear hS2 hD4 hb5
                  go_wp2_with fail
                  refine hA.mono ?_
                  rintro e w6 ⟨v6, rfl, ho6, hb6⟩
                  have hD6 := hD5.below hb6
                  have hB := hD6.swap.one.pairs hT
                  clear hA hD5 hb6
                  go_wp2_with fail
                  refine hB.mono ?_
                  rintro e w7 ⟨v7, rfl, ho7, hb7⟩
                  have hD7 := hD6.below hb7
                  have hC := rsame_any v6 v7 _ _ w7 (ho6.below hb7 (Nat.le_refl _)).has ho7.has (by omega) (by omega)
                  rw [HR.out] at hC
                  clear hB hD6 hb7 ho6 ho7
                  go_wp2_with fail
                  refine hC.mono ?_
                  rintro e w8 ⟨rfl, hb8⟩
                  have hD8 := hD7.below hb8
                  have hE := hD8.one.exp hT (by omega)
                  clear hC hD7 hb8
                  go_wp2_with fail
                  refine hE.mono ?_
                  rintro e w9 ⟨v9, rfl, ho9, hb9⟩
                  have hD9 := hD8.below hb9
                  have hG := hD9.swap.one.exp hT (by omega)
                  clear hE hD8 hb9
                  go_wp2_with fail
                  refine hG.mono ?_
                  rintro e w10 ⟨v10, rfl, ho10, hb10⟩
                  have hD10 := hD9.below hb10
                  have hH := same_any v9 v10 _ _ w10 (ho9.has.below hb10 (Nat.le_refl _)) ho10.has (expB_isB _) (expB_isB _)
                  rw [hxb] at hH
                  clear hG hD9 hb10 ho9 ho10
                  go_wp2_with fail
                  refine same_mono hH ?_
                  have hI := hD10.one.same hD10.one hT (by omega) (by omega)
                  rw [decide_eq_true rfl] at hI
                  clear hH
                  go_wp2_with fail
                  refine hI.mono ?_
                  rintro e w11 ⟨rfl, hb11⟩
                  have hD11 := hD10.below hb11
                  clear hI hD10 hb11
                  go_wp2_with fail
                  refine (hlives w11 hD11.bel).mono ?_
                  rintro e w12 ⟨rfl, hb12⟩
                  go_wp2
                  go_ret
                  exact ⟨rfl, hD11.bel.trans (hb12.mono hD11.bel.size)⟩
end Go.Proofs.YthlghokgknkpaaaDoor
