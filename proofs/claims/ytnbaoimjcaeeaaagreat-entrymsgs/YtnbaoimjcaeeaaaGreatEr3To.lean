import Derived.Test.YtnbaoimjcaeeaaaGreatEn7To
import Derived.Test.YtnbaoimjcaeeaaaGreatEo4To
import Derived.Test.YtnbaoimjcaeeaaaGreatCmBTo
/-
  Contracts: corbelref10.snap, SnapBytes.
-/
namespace Go.Proofs.YtnbaoimjcaeeaaaGreat
open Go.RowKit Go.Shelf

set_option maxRecDepth 100000 in
set_option maxHeartbeats 2000000 in
theorem rsnap_any (w : World) (v : Value) (xs : List Int) (x : SnapV) (h : Has w v xs) (hF : FitsS w x) (hf : FewF x.f.f) (hd : x.d.length ≤ 1000000) (hl : xs.length ≤ 1073000000) :
    Calls Tryz.prog 61 #[v, .agg x.arr] w (Outs w (xs ++ snapB x.s)) := by
  have hb1 : Below w.heap.size w (w.alloc (.cells x.arr 43)) := (Below.refl _ _).alloc (Nat.le_refl _) _
  have hbz := hb1.size
  have hbox : SnapAt (w.alloc (.cells x.arr 43)) w.heap.size x := heap_alloc_new w _
  have HN : Hid (numsB [x.i, x.t] = zigB x.i ++ zigB x.t) := by simp [Hid, numsB]
  have HE : Hid (xs ++ snapB x.s = xs ++ numsB [x.i, x.t] ++ confB x.f.f ++ bytB x.d) := by
    rw [Hid, HN.out]
    unfold snapB SnapV.s
    dsimp only
    simp only [List.append_assoc]
  have hl1 : (numsB [x.i, x.t]).length ≤ 18 := numsB_len _
  have hl2 := confB_len hf
  have kt : Hid (∀ W u, Has W u (xs ++ numsB [x.i, x.t] ++ confB x.f.f) → Calls Tryz.prog 93 #[u, .string (strOfNums x.d)] W fun e w' => ∃ v', e = .returned v' ∧ Owns w' W.heap.size 5 v' (xs ++ numsB [x.i, x.t] ++ confB x.f.f ++ bytB x.d) ∧ Below W.heap.size W w') := fun W u hu => by
    have := rputText_any u _ (strOfNums x.d) W hu (by rw [List.length_append, List.length_append]; omega) (by rw [size_of hF.b]; omega)
    rwa [textB_of hF.b] at this
  have kf : Hid (∀ W u, Below (w.alloc (.cells x.arr 43)).heap.size (w.alloc (.cells x.arr 43)) W → Has W u (xs ++ numsB [x.i, x.t]) → Calls Tryz.prog 95 #[u, .agg x.f.arr] W (Outs W (xs ++ numsB [x.i, x.t] ++ confB x.f.f))) := fun W u hb hu => rconf_any W u _ x.f hu ((hF.f.below hb1).below hb) hf (by rw [List.length_append]; omega)
  have kn : Hid (∀ (V : World) (R : Nat), HasI V (.slice (some ⟨R, 0, none⟩) 2 2) [x.i, x.t] → Below (w.alloc (.cells x.arr 43)).heap.size (w.alloc (.cells x.arr 43)) V → Calls Tryz.prog 57 #[v, .slice (some ⟨R, 0, none⟩) 2 2] V (Outs V (xs ++ numsB [x.i, x.t]))) := fun V R hR hb => rnums_any _ v xs [x.i, x.t] _ 2 2 ((h.below hb1 (Nat.le_refl _)).below hb (Nat.le_refl _)) hR (by omega) (by omega)
  have cv : Hid (∀ W, Below (w.alloc (.cells x.arr 43)).heap.size (w.alloc (.cells x.arr 43)) W → (convert 22 9 (.slice x.w.p x.w.n x.w.c)).run Tryz.prog W = .ok (.string (strOfNums x.d)) W) := fun W hb => ((hF.w.below hb1 (Nat.le_refl _)).below hb (Nat.le_refl _)).conv (P := Tryz.prog) 22 5 9 Tryz.underlying22 Tryz.underlying5 Tryz.underlying9
  obtain ⟨pv, cv0, rfl, -, -, -⟩ := id h
  generalize hxl : xs.length = nv at *
  clear hxl h hd hf hF HN
  generalize xs ++ snapB x.s = bs at *
  generalize xs ++ numsB [x.i, x.t] ++ confB x.f.f ++ bytB x.d = y3 at *
  generalize xs ++ numsB [x.i, x.t] ++ confB x.f.f = y2 at *
  generalize xs ++ numsB [x.i, x.t] = y1 at *
  obtain ⟨i, t, ⟨⟨p, n, c⟩, ⟨q, m, d⟩, f⟩, ⟨a, b0, e0⟩, dd⟩ := x
  unfold SnapV.arr at *
  unfold ConfV.arr at *
  dsimp only at *
  generalize strOfNums dd = sd at *
  go_enter Tryz.func61, Tryz.ntmps61
  go_wp2_with fail
  generalize w.alloc (.cells #[.int .i64 i, .int .i64 t, .slice p n c, .slice q m d, .slice a b0 e0] 43) = W1 at *
  have an := kn.out
  have af := kf.out
  have at' := kt.out
  have ac : Hid _ := cv.out
  clear kn kf kt cv
  obtain ⟨c0, c1, c2, c3, c4⟩ := hbox.cells
  dsimp only at c0 c1 c2 c3 c4
  have hlt := box_lt hbox
  generalize hbb : w.heap.size = b at *
  have Hbb : Hid (w.heap.size = b) := hbb
  clear hbb
  have cd : (convert 22 9 (.slice a b0 e0)).run Tryz.prog W1.drew = .ok (.string sd) W1.drew := ac.out _ ⟨rfl, rfl, rfl, Nat.le_refl _, fun _ _ => rfl⟩
  have s0 := And.intro cd (keepS0 c0 c1 c2 c3 c4)
  have hlit : HasI (W1.alloc (.cells #[.int .i64 i, .int .i64 t] 3)).drew (.slice (some ⟨W1.heap.size, 0, none⟩) 2 2) [i, t] := HasI.lit W1 [i, t] 3
  have kk : Hid (∀ wA wB : World, ((convert 22 9 (.slice a b0 e0)).run Tryz.prog wA = .ok (.string sd) wA ∧ wA.cell? ⟨b, 0, none⟩ = some (.int .i64 i) ∧ wA.cell? ⟨b, 1, none⟩ = some (.int .i64 t) ∧ wA.cell? ⟨b, 2, none⟩ = some (.slice p n c) ∧ wA.cell? ⟨b, 3, none⟩ = some (.slice q m d) ∧ wA.cell? ⟨b, 4, none⟩ = some (.slice a b0 e0) ∧ Below W1.heap.size W1 wA) → Below wA.heap.size wA wB → ((convert 22 9 (.slice a b0 e0)).run Tryz.prog wB = .ok (.string sd) wB ∧ wB.cell? ⟨b, 0, none⟩ = some (.int .i64 i) ∧ wB.cell? ⟨b, 1, none⟩ = some (.int .i64 t) ∧ wB.cell? ⟨b, 2, none⟩ = some (.slice p n c) ∧ wB.cell? ⟨b, 3, none⟩ = some (.slice q m d) ∧ wB.cell? ⟨b, 4, none⟩ = some (.slice a b0 e0) ∧ Below W1.heap.size W1 wB)) := fun wA wB h hb => ⟨ac.out wB (keepSB (keepS hlt h.2 hb)), keepS hlt h.2 hb⟩
  have kb : Hid (∀ wA : World, ((convert 22 9 (.slice a b0 e0)).run Tryz.prog wA = .ok (.string sd) wA ∧ wA.cell? ⟨b, 0, none⟩ = some (.int .i64 i) ∧ wA.cell? ⟨b, 1, none⟩ = some (.int .i64 t) ∧ wA.cell? ⟨b, 2, none⟩ = some (.slice p n c) ∧ wA.cell? ⟨b, 3, none⟩ = some (.slice q m d) ∧ wA.cell? ⟨b, 4, none⟩ = some (.slice a b0 e0) ∧ Below W1.heap.size W1 wA) → Below W1.heap.size W1 wA) := fun wA h => keepSB h.2
  go_region_held3 (fun w' => (convert 22 9 (.slice a b0 e0)).run Tryz.prog w' = .ok (.string sd) w' ∧ w'.cell? ⟨b, 0, none⟩ = some (.int .i64 i) ∧ w'.cell? ⟨b, 1, none⟩ = some (.int .i64 t) ∧ w'.cell? ⟨b, 2, none⟩ = some (.slice p n c) ∧ w'.cell? ⟨b, 3, none⟩ = some (.slice q m d) ∧ w'.cell? ⟨b, 4, none⟩ = some (.slice a b0 e0) ∧ Below W1.heap.size W1 w')
    (first | exact s0 | assumption | exact kk.out _ _ (by assumption) (by assumption) | exact kk.out _ _ (by assumption) ((Below.refl _ _).alloc (Nat.le_refl _) _))
    (first
      | (go_at_call 57; (with_reducible refine Calls.mono (an _ _ hlit (kb.out _ (by assumption))) ?_); rintro e w2 ⟨v2, rfl, ho2, hb2⟩; obtain ⟨p2, q2, rfl, -, -, -⟩ := id ho2)
      | (go_at_call 95; (with_reducible refine Calls.mono (af _ _ (kb.out _ (by assumption)) ho2) ?_); rintro e w3 ⟨v3, rfl, ho3, hb3⟩; obtain ⟨p3, q3, rfl, -, -, -⟩ := id ho3)
      | (go_at_call 93; (with_reducible refine Calls.mono (at' _ _ ho3) ?_); rintro e w4 ⟨v4, rfl, ho4, hb4⟩))
  all_goals
    have hW : Below W1.heap.size W1 w4 := kb.out _ (by assumption)
    go_wp2
    go_ret
    exact ⟨_, rfl, by rw [HE.out]; exact ho4.has, by rw [Hbb.out]; exact hb1.trans (hW.mono hbz)⟩
end Go.Proofs.YtnbaoimjcaeeaaaGreat

/-
  The walk of EntrySnaps.
-/
namespace Go.Proofs.YtnbaoimjcaeeaaaGreat
open Go.RowKit Go.Shelf

/-- A snapshot's box and another's, and old memory as it was. -/
def BoxSH (w0 w : World) (a b : Nat) (x : SnapV) (y : Hard10) : Prop := SnapAt w a x ∧ HardAt w b y ∧ Below w0.heap.size w0 w
theorem BoxSH.new (w : World) (x : SnapV) (y : Hard10) : BoxSH w ((w.alloc (.cells x.arr 43)).alloc (.cells y.arr 37)) w.heap.size (w.heap.size + 1) x y := by
  have hb1 : Below w.heap.size w (w.alloc (.cells x.arr 43)) := (Below.refl _ _).alloc (Nat.le_refl _) _
  have hbx : SnapAt (w.alloc (.cells x.arr 43)) w.heap.size x := heap_alloc_new w _
  have hz1 : (w.alloc (.cells x.arr 43)).heap.size = w.heap.size + 1 := by simp
  have hb2 := (Below.refl _ (w.alloc (.cells x.arr 43))).alloc (Nat.le_refl _) (.cells y.arr 37)
  have hby : HardAt ((w.alloc (.cells x.arr 43)).alloc (.cells y.arr 37)) (w.heap.size + 1) y := by rw [← hz1]; exact heap_alloc_new _ _
  exact ⟨box_below hbx hb2, hby, hb1.trans (hb2.mono hb1.size)⟩
theorem BoxSH.below {w0 w w' : World} {a b : Nat} {x : SnapV} {y : Hard10} (h : BoxSH w0 w a b x y) (hb : Below w.heap.size w w') : BoxSH w0 w' a b x y := ⟨box_below h.1 hb, box_below h.2.1 hb, h.2.2.trans (hb.mono h.2.2.size)⟩
/-- A message with nothing but a snapshot. -/
def onlyS (x : SnapV) : MsgV := ⟨0, 0, 0, 0, 0, 0, 0, 0, false, 0, nilS10, [], x⟩
theorem onlyS_fits {W : World} {x : SnapV} (h : FitsS W x) : FitsM W (onlyS x) := by
  have z : inI 0 := ⟨by decide, by decide⟩
  exact ⟨z, z, z, z, z, z, z, z, z, HasE.nil W, (show ((0 : Nat) : Int) ≤ 9223372036854775807 by decide), h⟩
theorem snapB_isB (s : Snap10) (h : IsB s.d) : IsB (snapB s) := by
  unfold snapB
  exact IsB.append (IsB.append (IsB.append (zigB_isB _) (zigB_isB _)) (confB_isB _)) (bytB_isB h)
theorem hardB_isB (h : Hard10) : IsB (hardB h) := by
  unfold hardB
  exact IsB.append (IsB.append (zigB_isB _) (zigB_isB _)) (zigB_isB _)

theorem keepG {w1 wA wB : World} {b d : Nat} {xb0 xb1 xb2 xb3 xb4 xd0 xd1 xd2 : Value} (hlb : b < w1.heap.size) (hld : d < w1.heap.size) (h : wA.cell? ⟨b, 0, none⟩ = some xb0 ∧ wA.cell? ⟨b, 1, none⟩ = some xb1 ∧ wA.cell? ⟨b, 2, none⟩ = some xb2 ∧ wA.cell? ⟨b, 3, none⟩ = some xb3 ∧ wA.cell? ⟨b, 4, none⟩ = some xb4 ∧ wA.cell? ⟨d, 0, none⟩ = some xd0 ∧ wA.cell? ⟨d, 1, none⟩ = some xd1 ∧ wA.cell? ⟨d, 2, none⟩ = some xd2 ∧ Below w1.heap.size w1 wA) (hb : Below wA.heap.size wA wB) :
    wB.cell? ⟨b, 0, none⟩ = some xb0 ∧ wB.cell? ⟨b, 1, none⟩ = some xb1 ∧ wB.cell? ⟨b, 2, none⟩ = some xb2 ∧ wB.cell? ⟨b, 3, none⟩ = some xb3 ∧ wB.cell? ⟨b, 4, none⟩ = some xb4 ∧ wB.cell? ⟨d, 0, none⟩ = some xd0 ∧ wB.cell? ⟨d, 1, none⟩ = some xd1 ∧ wB.cell? ⟨d, 2, none⟩ = some xd2 ∧ Below w1.heap.size w1 wB := by
  obtain ⟨h0, h1, h2, h3, h4, h5, h6, h7, hz⟩ := h
  have hs := hz.size
  exact ⟨(hb.cell (p := ⟨b, 0, none⟩) (by exact Nat.lt_of_lt_of_le hlb hs)).trans h0, (hb.cell (p := ⟨b, 1, none⟩) (by exact Nat.lt_of_lt_of_le hlb hs)).trans h1, (hb.cell (p := ⟨b, 2, none⟩) (by exact Nat.lt_of_lt_of_le hlb hs)).trans h2, (hb.cell (p := ⟨b, 3, none⟩) (by exact Nat.lt_of_lt_of_le hlb hs)).trans h3, (hb.cell (p := ⟨b, 4, none⟩) (by exact Nat.lt_of_lt_of_le hlb hs)).trans h4, (hb.cell (p := ⟨d, 0, none⟩) (by exact Nat.lt_of_lt_of_le hld hs)).trans h5, (hb.cell (p := ⟨d, 1, none⟩) (by exact Nat.lt_of_lt_of_le hld hs)).trans h6, (hb.cell (p := ⟨d, 2, none⟩) (by exact Nat.lt_of_lt_of_le hld hs)).trans h7, hz.trans (hb.mono hs)⟩
theorem keepG0 {w1 : World} {b d : Nat} {xb0 xb1 xb2 xb3 xb4 xd0 xd1 xd2 : Value} (h0 : w1.cell? ⟨b, 0, none⟩ = some xb0) (h1 : w1.cell? ⟨b, 1, none⟩ = some xb1) (h2 : w1.cell? ⟨b, 2, none⟩ = some xb2) (h3 : w1.cell? ⟨b, 3, none⟩ = some xb3) (h4 : w1.cell? ⟨b, 4, none⟩ = some xb4) (h5 : w1.cell? ⟨d, 0, none⟩ = some xd0) (h6 : w1.cell? ⟨d, 1, none⟩ = some xd1) (h7 : w1.cell? ⟨d, 2, none⟩ = some xd2) : w1.drew.cell? ⟨b, 0, none⟩ = some xb0 ∧ w1.drew.cell? ⟨b, 1, none⟩ = some xb1 ∧ w1.drew.cell? ⟨b, 2, none⟩ = some xb2 ∧ w1.drew.cell? ⟨b, 3, none⟩ = some xb3 ∧ w1.drew.cell? ⟨b, 4, none⟩ = some xb4 ∧ w1.drew.cell? ⟨d, 0, none⟩ = some xd0 ∧ w1.drew.cell? ⟨d, 1, none⟩ = some xd1 ∧ w1.drew.cell? ⟨d, 2, none⟩ = some xd2 ∧ Below w1.heap.size w1 w1.drew :=
  ⟨h0, h1, h2, h3, h4, h5, h6, h7, ⟨rfl, rfl, rfl, Nat.le_refl _, fun _ _ => rfl⟩⟩
theorem keepGB {w1 wA : World} {b d : Nat} {xb0 xb1 xb2 xb3 xb4 xd0 xd1 xd2 : Value} (h : wA.cell? ⟨b, 0, none⟩ = some xb0 ∧ wA.cell? ⟨b, 1, none⟩ = some xb1 ∧ wA.cell? ⟨b, 2, none⟩ = some xb2 ∧ wA.cell? ⟨b, 3, none⟩ = some xb3 ∧ wA.cell? ⟨b, 4, none⟩ = some xb4 ∧ wA.cell? ⟨d, 0, none⟩ = some xd0 ∧ wA.cell? ⟨d, 1, none⟩ = some xd1 ∧ wA.cell? ⟨d, 2, none⟩ = some xd2 ∧ Below w1.heap.size w1 wA) : Below w1.heap.size w1 wA := h.2.2.2.2.2.2.2.2
end Go.Proofs.YtnbaoimjcaeeaaaGreat
