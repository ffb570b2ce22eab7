/-
  Contracts: corbelref10.snap, SnapBytes.
-/
import Derived.Test.YtnbaoimjcaeeaaaEn7
namespace Go.Proofs.Ytnbaoimjcaeeaaa
open Go.RowKit Go.Shelf

set_option maxRecDepth 100000 in
set_option maxHeartbeats 2000000 in
theorem rsnap_any (w : World) (v : Value) (xs : List Int) (x : SnapV) (h : Has w v xs) (hF : FitsS w x) (hf : FewF x.f.f) (hd : x.d.length ≤ 1000000) (hl : xs.length ≤ 1073000000) :
    Calls Try.prog 45 #[v, .agg x.arr] w (Outs w (xs ++ snapB x.s)) := by
  have hb1 : Below w.heap.size w (w.alloc (.cells x.arr 39)) := (Below.refl _ _).alloc (Nat.le_refl _) _
  have hbz := hb1.size
  have hbox : SnapAt (w.alloc (.cells x.arr 39)) w.heap.size x := heap_alloc_new w _
  have HN : Hid (numsB [x.i, x.t] = zigB x.i ++ zigB x.t) := by simp [Hid, numsB]
  have HE : Hid (xs ++ snapB x.s = xs ++ numsB [x.i, x.t] ++ confB x.f.f ++ bytB x.d) := by
    rw [Hid, HN.out]
    unfold snapB SnapV.s
    dsimp only
    simp only [List.append_assoc]
  have hl1 : (numsB [x.i, x.t]).length ≤ 18 := numsB_len _
  have hl2 := confB_len hf
  have kt : Hid (∀ W u, Has W u (xs ++ numsB [x.i, x.t] ++ confB x.f.f) → Calls Try.prog 74 #[u, .string (strOfNums x.d)] W fun e w' => ∃ v', e = .returned v' ∧ Owns w' W.heap.size 5 v' (xs ++ numsB [x.i, x.t] ++ confB x.f.f ++ bytB x.d) ∧ Below W.heap.size W w') := fun W u hu => by
    have := rputText_any u _ (strOfNums x.d) W hu (by rw [List.length_append, List.length_append]; omega) (by rw [size_of hF.b]; omega)
    rwa [textB_of hF.b] at this
  have kf : Hid (∀ W u, Below (w.alloc (.cells x.arr 39)).heap.size (w.alloc (.cells x.arr 39)) W → Has W u (xs ++ numsB [x.i, x.t]) → Calls Try.prog 76 #[u, .agg x.f.arr] W (Outs W (xs ++ numsB [x.i, x.t] ++ confB x.f.f))) := fun W u hb hu => rconf_any W u _ x.f hu ((hF.f.below hb1).below hb) hf (by rw [List.length_append]; omega)
  have kn : Hid (∀ (V : World) (R : Nat), HasI V (.slice (some ⟨R, 0, none⟩) 2 2) [x.i, x.t] → Below (w.alloc (.cells x.arr 39)).heap.size (w.alloc (.cells x.arr 39)) V → Calls Try.prog 47 #[v, .slice (some ⟨R, 0, none⟩) 2 2] V (Outs V (xs ++ numsB [x.i, x.t]))) := fun V R hR hb => rnums_any _ v xs [x.i, x.t] _ 2 2 ((h.below hb1 (Nat.le_refl _)).below hb (Nat.le_refl _)) hR (by omega) (by omega)
  have cv : Hid (∀ W, Below (w.alloc (.cells x.arr 39)).heap.size (w.alloc (.cells x.arr 39)) W → (convert 34 9 (.slice x.w.p x.w.n x.w.c)).run Try.prog W = .ok (.string (strOfNums x.d)) W) := fun W hb => ((hF.w.below hb1 (Nat.le_refl _)).below hb (Nat.le_refl _)).conv (P := Try.prog) 34 5 9 Try.underlying34 Try.underlying5 Try.underlying9
  obtain ⟨pv, cv0, rfl, -, -, -⟩ := id h
  generalize hxl : xs.length = nv at *
  clear hxl h hd hf hF HN
  generalize xs ++ snapB x.s = bs at *
  generalize xs ++ numsB [x.i, x.t] ++ confB x.f.f ++ bytB x.d = y3 at *
  generalize xs ++ numsB [x.i, x.t] ++ confB x.f.f = y2 at *
  generalize xs ++ numsB [x.i, x.t] = y1 at *
  obtain ⟨i, t, ⟨⟨p, n, c⟩, ⟨q, m, d⟩, f⟩, ⟨a, b0, e0⟩, dd⟩ := x
  unfold SnapV.arr at *
  unfold ConfV.arr at *
  dsimp only at *
  generalize strOfNums dd = sd at *
  go_enter Try.func45, Try.ntmps45
  go_wp2_with fail
  generalize w.alloc (.cells #[.int .i64 i, .int .i64 t, .slice p n c, .slice q m d, .slice a b0 e0] 39) = W1 at *
  have an := kn.out
  have af := kf.out
  have at' := kt.out
  have ac : Hid _ := cv.out
  clear kn kf kt cv
  obtain ⟨c0, c1, c2, c3, c4⟩ := hbox.cells
  dsimp only at c0 c1 c2 c3 c4
  have hlt := box_lt hbox
  generalize hbb : w.heap.size = b at *
  have Hbb : Hid (w.heap.size = b) := hbb
  clear hbb
  have cd : (convert 34 9 (.slice a b0 e0)).run Try.prog W1.drew = .ok (.string sd) W1.drew := ac.out _ ⟨rfl, rfl, rfl, Nat.le_refl _, fun _ _ => rfl⟩
  have s0 := And.intro cd (keepS0 c0 c1 c2 c3 c4)
  have hlit : HasI (W1.alloc (.cells #[.int .i64 i, .int .i64 t] 3)).drew (.slice (some ⟨W1.heap.size, 0, none⟩) 2 2) [i, t] := HasI.lit W1 [i, t] 3
  have kk : Hid (∀ wA wB : World, ((convert 34 9 (.slice a b0 e0)).run Try.prog wA = .ok (.string sd) wA ∧ wA.cell? ⟨b, 0, none⟩ = some (.int .i64 i) ∧ wA.cell? ⟨b, 1, none⟩ = some (.int .i64 t) ∧ wA.cell? ⟨b, 2, none⟩ = some (.slice p n c) ∧ wA.cell? ⟨b, 3, none⟩ = some (.slice q m d) ∧ wA.cell? ⟨b, 4, none⟩ = some (.slice a b0 e0) ∧ Below W1.heap.size W1 wA) → Below wA.heap.size wA wB → ((convert 34 9 (.slice a b0 e0)).run Try.prog wB = .ok (.string sd) wB ∧ wB.cell? ⟨b, 0, none⟩ = some (.int .i64 i) ∧ wB.cell? ⟨b, 1, none⟩ = some (.int .i64 t) ∧ wB.cell? ⟨b, 2, none⟩ = some (.slice p n c) ∧ wB.cell? ⟨b, 3, none⟩ = some (.slice q m d) ∧ wB.cell? ⟨b, 4, none⟩ = some (.slice a b0 e0) ∧ Below W1.heap.size W1 wB)) := fun wA wB h hb => ⟨ac.out wB (keepSB (keepS hlt h.2 hb)), keepS hlt h.2 hb⟩
  have kb : Hid (∀ wA : World, ((convert 34 9 (.slice a b0 e0)).run Try.prog wA = .ok (.string sd) wA ∧ wA.cell? ⟨b, 0, none⟩ = some (.int .i64 i) ∧ wA.cell? ⟨b, 1, none⟩ = some (.int .i64 t) ∧ wA.cell? ⟨b, 2, none⟩ = some (.slice p n c) ∧ wA.cell? ⟨b, 3, none⟩ = some (.slice q m d) ∧ wA.cell? ⟨b, 4, none⟩ = some (.slice a b0 e0) ∧ Below W1.heap.size W1 wA) → Below W1.heap.size W1 wA) := fun wA h => keepSB h.2
  go_region_held3 (fun w' => (convert 34 9 (.slice a b0 e0)).run Try.prog w' = .ok (.string sd) w' ∧ w'.cell? ⟨b, 0, none⟩ = some (.int .i64 i) ∧ w'.cell? ⟨b, 1, none⟩ = some (.int .i64 t) ∧ w'.cell? ⟨b, 2, none⟩ = some (.slice p n c) ∧ w'.cell? ⟨b, 3, none⟩ = some (.slice q m d) ∧ w'.cell? ⟨b, 4, none⟩ = some (.slice a b0 e0) ∧ Below W1.heap.size W1 w')
    (first | exact s0 | assumption | exact kk.out _ _ (by assumption) (by assumption) | exact kk.out _ _ (by assumption) ((Below.refl _ _).alloc (Nat.le_refl _) _))
    (first
      | (go_at_call 47; (with_reducible refine Calls.mono (an _ _ hlit (kb.out _ (by assumption))) ?_); rintro e w2 ⟨v2, rfl, ho2, hb2⟩; obtain ⟨p2, q2, rfl, -, -, -⟩ := id ho2)
      | (go_at_call 76; (with_reducible refine Calls.mono (af _ _ (kb.out _ (by assumption)) ho2) ?_); rintro e w3 ⟨v3, rfl, ho3, hb3⟩; obtain ⟨p3, q3, rfl, -, -, -⟩ := id ho3)
      | (go_at_call 74; (with_reducible refine Calls.mono (at' _ _ ho3) ?_); rintro e w4 ⟨v4, rfl, ho4, hb4⟩))
  all_goals
    have hW : Below W1.heap.size W1 w4 := kb.out _ (by assumption)
    go_wp2
    go_ret
    exact ⟨_, rfl, by rw [HE.out]; exact ho4.has, by rw [Hbb.out]; exact hb1.trans (hW.mono hbz)⟩

set_option maxRecDepth 100000 in
set_option maxHeartbeats 1500000 in
theorem rbytesS_any (w : World) (x : SnapV) (hF : FitsS w x) (hf : FewF x.f.f) (hd : x.d.length ≤ 1000000) :
    Calls Try.prog 24 #[.agg x.arr] w (Outs w (snapB x.s)) := by
  have hb1 : Below w.heap.size w (w.alloc (.cells x.arr 39)) := (Below.refl _ _).alloc (Nat.le_refl _) _
  have k1 := rsnap_any (w.alloc (.cells x.arr 39)) (.slice none 0 0) [] x (Has.nil _) (hF.below hb1) hf hd (by simp)
  rw [List.nil_append] at k1
  generalize snapB x.s = bs at *
  obtain ⟨i, t, ⟨⟨p, n, c⟩, ⟨q, m, d⟩, f⟩, ⟨a, b, e⟩, dd⟩ := x
  unfold SnapV.arr at *
  dsimp only at *
  go_enter Try.func24, Try.ntmps24
  go_wp2_with fail
  refine k1.mono ?_
  rintro e w3 ⟨v3, rfl, ho3, hb3⟩
  go_wp2
  go_ret
  exact ⟨_, rfl, ho3, hb1.trans (hb3.mono hb1.size)⟩
end Go.Proofs.Ytnbaoimjcaeeaaa
