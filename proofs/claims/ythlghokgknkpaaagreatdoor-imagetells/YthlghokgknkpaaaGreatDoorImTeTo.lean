import Derived.Test.YthlghokgknkpaaaGreatDoorImITo
import Derived.Deep.RegionHeld3
import Derived.Test.YthlghokgknkpaaaGreatDoorImTdTo
/-
  The walk of corbellaw07.ImageNone.
-/
namespace Go.Proofs.YthlghokgknkpaaaGreatDoor
open Go.RowKit Go.Shelf Go.Lib

theorem exp_none : expB [] = [0] := by decide +kernel
theorem zero_isB : IsB [0] := fun x hx => by simp at hx; omega
theorem cut_nil (f u : ByteArray) (n : Int) : cutL [] f u n = [] := by simp [cutL]

theorem lit0 (W : World) : Has (W.alloc (.cells #[.int .u8 0] 5)) (.slice (some ⟨W.heap.size, 0, none⟩) 1 1) [0] := Has.lit W [0] _
/-- Three cells of a box, and all that is old, as it was. -/
theorem keepA {X w1 w2 : World} {s : Nat} {v0 v1 v2 : Value} (hs : s < X.heap.size) (hb : Below w1.heap.size w1 w2) (h : w1.cell? ⟨s, 0, none⟩ = some v0 ∧ w1.cell? ⟨s, 1, none⟩ = some v1 ∧ w1.cell? ⟨s, 2, none⟩ = some v2 ∧ Below X.heap.size X w1) :
    w2.cell? ⟨s, 0, none⟩ = some v0 ∧ w2.cell? ⟨s, 1, none⟩ = some v1 ∧ w2.cell? ⟨s, 2, none⟩ = some v2 ∧ Below X.heap.size X w2 := by
  obtain ⟨h1, h2, h3, h4⟩ := h
  have := h4.size
  exact ⟨(hb.cell (p := ⟨s, 0, none⟩) (by show s < _; omega)).trans h1, (hb.cell (p := ⟨s, 1, none⟩) (by show s < _; omega)).trans h2, (hb.cell (p := ⟨s, 2, none⟩) (by show s < _; omega)).trans h3, h4.trans (hb.mono h4.size)⟩
theorem allocA {X w1 : World} {s : Nat} {v0 v1 v2 : Value} (hs : s < X.heap.size) (o : Obj) (h : w1.cell? ⟨s, 0, none⟩ = some v0 ∧ w1.cell? ⟨s, 1, none⟩ = some v1 ∧ w1.cell? ⟨s, 2, none⟩ = some v2 ∧ Below X.heap.size X w1) :
    (w1.alloc o).cell? ⟨s, 0, none⟩ = some v0 ∧ (w1.alloc o).cell? ⟨s, 1, none⟩ = some v1 ∧ (w1.alloc o).cell? ⟨s, 2, none⟩ = some v2 ∧ Below X.heap.size X (w1.alloc o) := keepA hs ((Below.refl _ _).alloc (Nat.le_refl _) _) h
theorem heldA {a b c d : Prop} (h : a ∧ b ∧ c ∧ d) : d := h.2.2.2
end Go.Proofs.YthlghokgknkpaaaGreatDoor

/-
  The walk of corbellaw07.ImageTells.
-/
namespace Go.Proofs.YthlghokgknkpaaaGreatDoor
open Go.RowKit Go.Shelf Go.Lib

theorem rem4 (j : Nat) : (j : Int).tmod 4 = ((j % 4 : Nat) : Int) := by
  rw [Int.tmod_eq_emod_of_nonneg (by omega)]
  omega
theorem cut_few (l : List (ByteArray × ByteArray)) (f u : ByteArray) (n : Int) : (cutL l f u n).length ≤ l.length := by
  unfold cutL
  rw [List.length_take]
  exact Nat.le_trans (Nat.min_le_right _ _) (List.length_filter_le _ _)
set_option maxRecDepth 100000 in
set_option maxHeartbeats 1500000 in
theorem imageTells_any (k0 k1 : Int) (p : Option Addr) (n c : Nat) (xs : List (ByteArray × ByteArray)) (f u : ByteArray) (lim : Int) (w : World) (hT : Tab w)
    (_hk0 : 0 ≤ k0 ∧ k0 ≤ 18446744073709551615) (_hk1 : 0 ≤ k1 ∧ k1 ≤ 18446744073709551615) (hX : HasP w (.slice p n c) xs) (hXi : InP xs) (hn : (n : Int) ≤ 9223372036854775807) (hlim : -9223372036854775808 ≤ lim ∧ lim ≤ 9223372036854775807) :
    Calls Tryz.prog 3 #[.agg #[.int .u64 k0, .int .u64 k1], .slice p n c, .agg #[.string f, .string u, .int .i64 lim]] w fun e w' => e = .returned (.bool true) ∧ Below w.heap.size w w' := by
  have hw0 := hT.1
  obtain ⟨W0, hW0, a0, a1, q, hz0, hB0⟩ := boxes8 w k0 k1 (.string f) (.string u) (.int .i64 lim) 27
  have hnd : needI 0 ≠ 0 := by decide
  have hng : (needI 0).toNat = 1 := by decide
  have hgt : isGood ((1 : Nat) : Int) = true := by decide
  generalize hs : w.heap.size + 1 = s at *
  have Hs : Hid (w.heap.size + 1 = s) := hs
  have s0 : W0.drew.cell? ⟨w.heap.size, 0, none⟩ = some (.int .u64 k0) ∧ W0.drew.cell? ⟨w.heap.size, 1, none⟩ = some (.int .u64 k1) ∧ Below w.heap.size w W0.drew ∧ W0.drew.heap[s]? = some (.cells #[.string f, .string u, .int .i64 lim] 27 (0, 0)) := ⟨a0, a1, hB0.drew, q⟩
  have hpos : ∀ V : World, Below w.heap.size w V → 0 < V.heap.size := fun V hV => Nat.lt_of_lt_of_le hw0 hV.size
  go_enter Tryz.func3, Tryz.ntmps3
  go_wp2_with fail
  clear hW0
  go_region_held3 (fun w' => w'.cell? ⟨w.heap.size, 0, none⟩ = some (.int .u64 k0) ∧ w'.cell? ⟨w.heap.size, 1, none⟩ = some (.int .u64 k1) ∧ Below w.heap.size w w' ∧ w'.heap[s]? = some (.cells #[.string f, .string u, .int .i64 lim] 27 (0, 0)))
    (first | exact s0 | exact keepT Hs.out (by assumption) (by assumption))
    (first
      | (go_at_call 6; refine (new_any_s k0 k1 0 _ (by omega) (by omega) hnd).mono ?_; rintro e w1 ⟨b, bw, bs, rfl, hl1, g1, g2, g3, hb1⟩)
      | (go_at_call 7; refine (rnew_any k0 k1 0 _ (hpos _ (And.left (And.right (And.right (by assumption))))) (by omega) (by omega) hnd).mono ?_; rintro e w2 ⟨c2, cw, cs, rfl, hl2, f1, f2, f3, hb2⟩))
  rename_i hS2
  rw [hng] at hl1 hl2
  have hD0 := duo7_new s0.2.2.1 hl1 hgt g1 g2 g3 hb1 hl2 f1 f2 f3 hb2
  have hF0 := fine_empty k0 k1 1 hgt
  have q2 := hS2.2.2.2
  clear hl1 hl2 g1 g2 g3 f1 f2 f3 hb1 hb2 hgt s0 hnd hng a0 a1 q hz0 hB0 hS2
  generalize SM.empty k0 k1 (.string ⟨#[]⟩) 1 = M0 at *
  have hql : ∀ V : World, V.heap[s]? = some (.cells #[.string f, .string u, .int .i64 lim] 27 (0, 0)) → s < V.heap.size := fun V hV => (Array.getElem?_eq_some_iff.1 hV).1
  have hlives := fun (W : World) (hW : Below w.heap.size w W) => lives7_any W (hT.below hW hw0)
  have hfew := fewL_any p n c xs w2 (hX.below hD0.bel (Nat.le_refl _)) hXi hn
  go_wp2_with fail
  refine hfew.mono ?_
  rintro e w3 ⟨r1, rfl, hr1, hb3⟩
  replace hD0 := hD0.below hb3
  replace q2 := (hb3.block s (hql _ q2)).trans q2
  clear hfew hb3 hs
  cases r1 with
  | false =>
    go_wp2_with fail
    refine (hlives w3 hD0.bel).mono ?_
    rintro e w4 ⟨rfl, hb4⟩
    go_wp2
    go_ret
    exact ⟨rfl, hD0.bel.trans (hb4.mono hD0.bel.size)⟩
  | true =>
    have Fx : Hid (FewL xs) := hr1 rfl
    have Lx : Hid (xs.length = n) := hX.len.1.symm
    have hnx : n ≤ 300 := by rw [← Lx.out]; exact fewL_len Fx.out
    clear hr1
    go_wp2
    go_loopw [33] (fun i wr => ∃ (j : Nat) (M : SM), j ≤ n ∧ i = .int .i64 (j : Nat) ∧ Fine j M ∧ Duo7 w wr b c2 M M ∧ wr.heap[s]? = some (.cells #[.string f, .string u, .int .i64 lim] 27 (0, 0))) (fun i _ => n - (intOf i).toNat)
    case atStart => exact ⟨0, M0, Nat.zero_le _, rfl, hF0, hD0, q2⟩
    case round =>
      clear hD0 q2 hF0
      obtain ⟨j, M, hj, rfl, hF, hD, q⟩ := hrel
      by_cases hlt : j < n
      · obtain ⟨bb, oo, rfl, hbb, hcc, -, c1, c2'⟩ := (hX.below hD.bel (Nat.le_refl _)).at (j := j) hlt
        have hjx : j < xs.length := by rw [Lx.out]; exact hlt
        have hsz := fewL_size Fx.out (pgetD_mem hjx)
        clear hjx
        generalize xs.getD j default = x at *
        have hba : Below wr.heap.size wr (wr.alloc (.cells #[.string x.1, .string x.2] 35)) := (Below.refl _ _).alloc (Nat.le_refl _) _
        have hput := (hD.below hba).putL hT x (by omega)
        have q' := (hba.block s (hql _ q)).trans q
        have hA := heap_alloc_new wr (.cells #[.string x.1, .string x.2] 35)
        obtain ⟨d1, d2⟩ := pair2 hA
        go_wp2_with fail
        generalize wr.alloc (.cells #[.string x.1, .string x.2] 35) = wa at *
        generalize wr.heap.size = ab at *
        refine hput.mono ?_
        rintro e w4 ⟨⟨y1, y2, rfl⟩, hD4, hk4⟩
        have q4 := hk4 _ s _ _ (by decide) q'
        obtain ⟨d3, d4⟩ := pair2 (hk4 _ _ _ _ (by decide) hA)
        have hput2 := hD4.putR x hw0 (by omega)
        clear hput hD q q' hba c1 c2' d1 d2 hA
        go_wp2_with fail
        refine hput2.mono ?_
        rintro e w5 ⟨⟨z1, z2, rfl⟩, hD5, hk5⟩
        have q5 := hk5 _ s _ _ (by decide) q4
        have hF5 := fine_putP hF (by omega) x ⟨by omega, by omega⟩
        clear hput2 hD4 q4 hk4 hk5 d3 d4
        have hrm := rem4 j
        by_cases h3 : j % 4 = 3
        · rw [h3] at hrm
          replace hrm : (j : Int).tmod 4 = 3 := hrm
          obtain ⟨b2, o2, e2, hb2, -, -, c1, -⟩ := (hX.below hD5.bel (Nat.le_refl _)).at (j := j - 1) (by omega)
          cases e2
          have hjx : j - 1 < xs.length := by rw [Lx.out]; omega
          have hsz2 := fewL_size Fx.out (pgetD_mem hjx)
          clear hjx
          obtain ⟨y, hy⟩ : ∃ y, xs.getD (j - 1) default = y := ⟨_, rfl⟩
          have HY : Hid (xs.getD (j - 1) default = y) := hy
          rw [hy] at c1 hsz2
          clear hy
          have hi1 : (0 : Int) < (j : Int) := by omega
          have hi2 : (((j : Int) - 1)).toNat = j - 1 := by omega
          have hi3 : (j : Int) - 1 < (n : Int) := by omega
          have hi4 : (0 : Int) ≤ (j : Int) - 1 := by omega
          have hi5 : 0 < j := by omega
          have hdel := hD5.delL hT y.1 (by omega)
          clear h3
          go_wp2_with fail
          refine hdel.mono ?_
          rintro e w6 ⟨⟨t1, rfl⟩, hD6, hk6⟩
          have q6 := hk6 _ s _ _ (by decide) q5
          obtain ⟨b3, o3, e3, -, -, -, c3, -⟩ := (hX.below hD6.bel (Nat.le_refl _)).at (j := j - 1) (by omega)
          cases e3
          rw [HY.out] at c3
          have hdel2 := hD6.delR y.1 (by omega)
          clear hdel hD5 q5 hk6 c1
          go_wp2_with fail
          refine hdel2.mono ?_
          rintro e w7 ⟨⟨t2, rfl⟩, hD7, hk7⟩
          have q7 := hk7 _ s _ _ (by decide) q6
          have hF7 := fine_delP hF5 y.1
          clear hdel2 hD6 q6 hk7 c3
          go_wp2
          go_roundw
          case rel => exact ⟨j + 1, _, by omega, by go_num, hF7, hD7, q7⟩
          case measure => simp only [intOf]; omega
        · have hrm2 : ¬ ((j : Int).tmod 4 = 3) := by omega
          clear hrm
          go_wp2
          go_roundw
          case rel => exact ⟨j + 1, _, by omega, by go_num, hF5, hD5, q5⟩
          case measure => simp only [intOf]; omega
      · obtain rfl : j = n := by omega
        clear hX hXi Fx Lx hlt hj
        have hPs := hD.rpairs
        go_wp2_with fail
        refine hPs.mono ?_
        rintro e w6 ⟨v6, rfl, ho6, hb6⟩
        have hD6 : Hid (Duo7 w w6 b c2 M M) := hD.below hb6
        have q6 := (hb6.block s (hql _ q)).trans q
        obtain ⟨e0, e1, e2⟩ := ask3 q6
        have hH6 : HasP w6 v6 M.img := ho6.has
        have HF : Hid (Fine j M) := hF
        have Hl6 : Hid (M.img.length ≤ 300) := by rw [Hid, img_len hF.inv]; have := hF.n; omega
        have Hsz : Hid (∀ p ∈ M.img, p.1.size ≤ 131072 ∧ p.2.size ≤ 131072) := (hF.few (by omega)).2
        have hO : ∀ W, Below w6.heap.size w6 W → One7 w W b j M := fun W hW => (hD6.out.one HF.out).below hW
        have s0 : w6.drew.cell? ⟨s, 0, none⟩ = some (.string f) ∧ w6.drew.cell? ⟨s, 1, none⟩ = some (.string u) ∧ w6.drew.cell? ⟨s, 2, none⟩ = some (.int .i64 lim) ∧ Below w6.heap.size w6 w6.drew := ⟨e0, e1, e2, ⟨rfl, rfl, rfl, Nat.le_refl _, fun _ _ => rfl⟩⟩
        have hsl : s < w6.heap.size := hql _ q6
        have hPr : ∀ W, Below w6.heap.size w6 W → Calls Tryz.prog 16 #[.pointer (some ⟨b, 0, none⟩)] W fun e w' => ∃ v, e = .returned v ∧ OwnsP w' W.heap.size v M.img ∧ Below W.heap.size W w' := fun W hW => (hO W hW).pairs hT
        have hRg : ∀ W, Below w6.heap.size w6 W → Calls Tryz.prog 17 #[.pointer (some ⟨b, 0, none⟩), .string f, .string u, .int .i64 lim] W fun e w' => ∃ v, e = .returned v ∧ OwnsP w' W.heap.size v (cutL M.img f u lim) ∧ Below W.heap.size W w' := fun W hW => (hO W hW).range hT (by omega) f u lim hlim
        have hEx : ∀ W, Below w6.heap.size w6 W → Calls Tryz.prog 20 #[.pointer (some ⟨b, 0, none⟩)] W fun e w' => ∃ v, e = .returned v ∧ Owns w' W.heap.size 5 v (expB M.img) ∧ Below W.heap.size W w' := fun W hW => (hO W hW).exp hT (by omega)
        have hCt : ∀ W, Below w6.heap.size w6 W → Calls Tryz.prog 18 #[v6, .string f, .string u, .int .i64 lim] W fun e w' => ∃ v, e = .returned v ∧ OwnsP w' W.heap.size v (cutL M.img f u lim) ∧ Below W.heap.size W w' := fun W hW => rcut_any v6 M.img f u lim W (hH6.below hW (Nat.le_refl _)) (by have := Hl6.out; omega)
        have hBy : ∀ W, Below w6.heap.size w6 W → Calls Tryz.prog 21 #[v6] W fun e w' => ∃ v, e = .returned v ∧ Owns w' W.heap.size 5 v (expB M.img) ∧ Below W.heap.size W w' := fun W hW => rbytes_any v6 M.img W (hH6.below hW (Nat.le_refl _)) (by have := Hl6.out; omega) Hsz.out
        have hSa : ∀ W v, Below w6.heap.size w6 W → HasP W v M.img → Calls Tryz.prog 15 #[v, v6] W fun e w' => e = .returned (.bool true) ∧ Below W.heap.size W w' := fun W v hW hv => by
          have h := rsame_any v v6 _ _ W hv (hH6.below hW (Nat.le_refl _)) (by have := Hl6.out; omega) (by have := Hl6.out; omega)
          rw [decide_eq_true rfl] at h
          exact h
        have hSc : ∀ W v x, HasP W v (cutL M.img f u lim) → HasP W x (cutL M.img f u lim) → Calls Tryz.prog 15 #[v, x] W fun e w' => e = .returned (.bool true) ∧ Below W.heap.size W w' := fun W v x hv hx => by
          have hc := cut_few M.img f u lim
          have h := rsame_any v x _ _ W hv hx (by have := Hl6.out; omega) (by have := Hl6.out; omega)
          rw [decide_eq_true rfl] at h
          exact h
        have hSb : ∀ W v x, Has W v (expB M.img) → Has W x (expB M.img) → Calls Tryz.prog 19 #[v, x] W fun e w' => e = .returned (.bool true) ∧ w' = W := fun W v x hv hx => by
          have h := same_any v x _ _ W hv hx (expB_isB _) (expB_isB _)
          rw [show (expB M.img == expB M.img) = true by simp] at h
          exact h
        have hLv : ∀ W, Below w6.heap.size w6 W → Calls Tryz.prog 9 #[] W fun e w' => e = .returned (.bool true) ∧ Below W.heap.size W w' := fun W hW => hlives W (hO W hW).bel
        have hbel : ∀ W, Below w6.heap.size w6 W → Below w.heap.size w W := fun W hW => (hO W hW).bel
        clear hPs hD q q6 e0 e1 e2 ho6 hH6 hb6 hF hO hlives hpos hnx
        go_wp2_with fail
        go_region_held3 (fun w' => w'.cell? ⟨s, 0, none⟩ = some (.string f) ∧ w'.cell? ⟨s, 1, none⟩ = some (.string u) ∧ w'.cell? ⟨s, 2, none⟩ = some (.int .i64 lim) ∧ Below w6.heap.size w6 w')
          (first | exact s0 | assumption | exact keepA hsl (by assumption) (by assumption))
          (first
            | (go_at_call 16; refine Calls.mono (hPr _ (heldA (by assumption))) ?_; rintro e w7 ⟨v7, rfl, ho7, hb7⟩)
            | (go_at_call 15; with_reducible refine Calls.mono (hSa _ _ (heldA (by assumption)) (OwnsP.has ho7)) ?_; rintro e w8 ⟨rfl, hb8⟩; clear ho7)
            | (go_at_call 17; refine Calls.mono (hRg _ (heldA (by assumption))) ?_; rintro e w9 ⟨v9, rfl, ho9, hb9⟩)
            | (go_at_call 18; refine Calls.mono (hCt _ (heldA (by assumption))) ?_; rintro e w10 ⟨v10, rfl, ho10, hb10⟩; replace ho9 := ho9.below hb10 (Nat.le_refl _))
            | (go_at_call 15; with_reducible refine Calls.mono (hSc _ _ _ (OwnsP.has ho9) (OwnsP.has ho10)) ?_; rintro e w11 ⟨rfl, hb11⟩; clear ho9 ho10)
            | (go_at_call 20; refine Calls.mono (hEx _ (heldA (by assumption))) ?_; rintro e w12 ⟨v12, rfl, ho12, hb12⟩)
            | (go_at_call 21; refine Calls.mono (hBy _ (heldA (by assumption))) ?_; rintro e w13 ⟨v13, rfl, ho13, hb13⟩; replace ho12 := ho12.has.below hb13 (Nat.le_refl _); replace ho13 := ho13.has)
            | (go_at_call 19; refine same_mono (hSb _ _ _ ho12 ho13) ?_; clear ho12 ho13)
            | (go_at_call 9; refine Calls.mono (hLv _ (heldA (by assumption))) ?_; rintro e w14 ⟨rfl, hb14⟩))
        all_goals
          go_wp2
          go_ret
          exact ⟨rfl, hbel _ (heldA (by assumption))⟩
end Go.Proofs.YthlghokgknkpaaaGreatDoor
