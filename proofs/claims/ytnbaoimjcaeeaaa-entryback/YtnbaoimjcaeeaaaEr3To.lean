import Derived.Test.YtnbaoimjcaeeaaaEn7To
import Derived.Test.YtnbaoimjcaeeaaaEo4To
import Derived.Test.YtnbaoimjcaeeaaaCmBTo
/-
  Contracts: corbelref10.snap, SnapBytes.
-/
namespace Go.Proofs.Ytnbaoimjcaeeaaa
open Go.RowKit Go.Shelf

set_option maxRecDepth 100000 in
set_option maxHeartbeats 2000000 in
theorem rsnap_any (w : World) (v : Value) (xs : List Int) (x : SnapV) (h : Has w v xs) (hF : FitsS w x) (hf : FewF x.f.f) (hd : x.d.length ≤ 1000000) (hl : xs.length ≤ 1073000000) :
    Calls Try.prog 45 #[v, .agg x.arr] w (Outs w (xs ++ snapB x.s)) := by
  have hb1 : Below w.heap.size w (w.alloc (.cells x.arr 39)) := (Below.refl _ _).alloc (Nat.le_refl _) _
  have hbz := hb1.size
  have hbox : SnapAt (w.alloc (.cells x.arr 39)) w.heap.size x := heap_alloc_new w _
  have HN : Hid (numsB [x.i, x.t] = zigB x.i ++ zigB x.t) := by simp [Hid, numsB]
  have HE : Hid (xs ++ snapB x.s = xs ++ numsB [x.i, x.t] ++ confB x.f.f ++ bytB x.d) := by
    rw [Hid, HN.out]
    unfold snapB SnapV.s
    dsimp only
    simp only [List.append_assoc]
  have hl1 : (numsB [x.i, x.t]).length ≤ 18 := numsB_len _
  have hl2 := confB_len hf
  have kt : Hid (∀ W u, Has W u (xs ++ numsB [x.i, x.t] ++ confB x.f.f) → Calls Try.prog 74 #[u, .string (strOfNums x.d)] W fun e w' => ∃ v', e = .returned v' ∧ Owns w' W.heap.size 5 v' (xs ++ numsB [x.i, x.t] ++ confB x.f.f ++ bytB x.d) ∧ Below W.heap.size W w') := fun W u hu => by
    have := rputText_any u _ (strOfNums x.d) W hu (by rw [List.length_append, List.length_append]; omega) (by rw [size_of hF.b]; omega)
    rwa [textB_of hF.b] at this
  have kf : Hid (∀ W u, Below (w.alloc (.cells x.arr 39)).heap.size (w.alloc (.cells x.arr 39)) W → Has W u (xs ++ numsB [x.i, x.t]) → Calls Try.prog 76 #[u, .agg x.f.arr] W (Outs W (xs ++ numsB [x.i, x.t] ++ confB x.f.f))) := fun W u hb hu => rconf_any W u _ x.f hu ((hF.f.below hb1).below hb) hf (by rw [List.length_append]; omega)
  have kn : Hid (∀ (V : World) (R : Nat), HasI V (.slice (some ⟨R, 0, none⟩) 2 2) [x.i, x.t] → Below (w.alloc (.cells x.arr 39)).heap.size (w.alloc (.cells x.arr 39)) V → Calls Try.prog 47 #[v, .slice (some ⟨R, 0, none⟩) 2 2] V (Outs V (xs ++ numsB [x.i, x.t]))) := fun V R hR hb => rnums_any _ v xs [x.i, x.t] _ 2 2 ((h.below hb1 (Nat.le_refl _)).below hb (Nat.le_refl _)) hR (by omega) (by omega)
  have cv : Hid (∀ W, Below (w.alloc (.cells x.arr 39)).heap.size (w.alloc (.cells x.arr 39)) W → (convert 34 9 (.slice x.w.p x.w.n x.w.c)).run Try.prog W = .ok (.string (strOfNums x.d)) W) := fun W hb => ((hF.w.below hb1 (Nat.le_refl _)).below hb (Nat.le_refl _)).conv (P := Try.prog) 34 5 9 Try.underlying34 Try.underlying5 Try.underlying9
  obtain ⟨pv, cv0, rfl, -, -, -⟩ := id h
  generalize hxl : xs.length = nv at *
  clear hxl h hd hf hF HN
  generalize xs ++ snapB x.s = bs at *
  generalize xs ++ numsB [x.i, x.t] ++ confB x.f.f ++ bytB x.d = y3 at *
  generalize xs ++ numsB [x.i, x.t] ++ confB x.f.f = y2 at *
  generalize xs ++ numsB [x.i, x.t] = y1 at *
  obtain ⟨i, t, ⟨⟨p, n, c⟩, ⟨q, m, d⟩, f⟩, ⟨a, b0, e0⟩, dd⟩ := x
  unfold SnapV.arr at *
  unfold ConfV.arr at *
  dsimp only at *
  generalize strOfNums dd = sd at *
  go_enter Try.func45, Try.ntmps45
  go_wp2_with fail
  generalize w.alloc (.cells #[.int .i64 i, .int .i64 t, .slice p n c, .slice q m d, .slice a b0 e0] 39) = W1 at *
  have an := kn.out
  have af := kf.out
  have at' := kt.out
  have ac : Hid _ := cv.out
  clear kn kf kt cv
  obtain ⟨c0, c1, c2, c3, c4⟩ := hbox.cells
  dsimp only at c0 c1 c2 c3 c4
  have hlt := box_lt hbox
  generalize hbb : w.heap.size = b at *
  have Hbb : Hid (w.heap.size = b) := hbb
  clear hbb
  have cd : (convert 34 9 (.slice a b0 e0)).run Try.prog W1.drew = .ok (.string sd) W1.drew := ac.out _ ⟨rfl, rfl, rfl, Nat.le_refl _, fun _ _ => rfl⟩
  have s0 := And.intro cd (keepS0 c0 c1 c2 c3 c4)
  have hlit : HasI (W1.alloc (.cells #[.int .i64 i, .int .i64 t] 3)).drew (.slice (some ⟨W1.heap.size, 0, none⟩) 2 2) [i, t] := HasI.lit W1 [i, t] 3
  have kk : Hid (∀ wA wB : World, ((convert 34 9 (.slice a b0 e0)).run Try.prog wA = .ok (.string sd) wA ∧ wA.cell? ⟨b, 0, none⟩ = some (.int .i64 i) ∧ wA.cell? ⟨b, 1, none⟩ = some (.int .i64 t) ∧ wA.cell? ⟨b, 2, none⟩ = some (.slice p n c) ∧ wA.cell? ⟨b, 3, none⟩ = some (.slice q m d) ∧ wA.cell? ⟨b, 4, none⟩ = some (.slice a b0 e0) ∧ Below W1.heap.size W1 wA) → Below wA.heap.size wA wB → ((convert 34 9 (.slice a b0 e0)).run Try.prog wB = .ok (.string sd) wB ∧ wB.cell? ⟨b, 0, none⟩ = some (.int .i64 i) ∧ wB.cell? ⟨b, 1, none⟩ = some (.int .i64 t) ∧ wB.cell? ⟨b, 2, none⟩ = some (.slice p n c) ∧ wB.cell? ⟨b, 3, none⟩ = some (.slice q m d) ∧ wB.cell? ⟨b, 4, none⟩ = some (.slice a b0 e0) ∧ Below W1.heap.size W1 wB)) := fun wA wB h hb => ⟨ac.out wB (keepSB (keepS hlt h.2 hb)), keepS hlt h.2 hb⟩
  have kb : Hid (∀ wA : World, ((convert 34 9 (.slice a b0 e0)).run Try.prog wA = .ok (.string sd) wA ∧ wA.cell? ⟨b, 0, none⟩ = some (.int .i64 i) ∧ wA.cell? ⟨b, 1, none⟩ = some (.int .i64 t) ∧ wA.cell? ⟨b, 2, none⟩ = some (.slice p n c) ∧ wA.cell? ⟨b, 3, none⟩ = some (.slice q m d) ∧ wA.cell? ⟨b, 4, none⟩ = some (.slice a b0 e0) ∧ Below W1.heap.size W1 wA) → Below W1.heap.size W1 wA) := fun wA h => keepSB h.2
  go_region_held3 (fun w' => (convert 34 9 (.slice a b0 e0)).run Try.prog w' = .ok (.string sd) w' ∧ w'.cell? ⟨b, 0, none⟩ = some (.int .i64 i) ∧ w'.cell? ⟨b, 1, none⟩ = some (.int .i64 t) ∧ w'.cell? ⟨b, 2, none⟩ = some (.slice p n c) ∧ w'.cell? ⟨b, 3, none⟩ = some (.slice q m d) ∧ w'.cell? ⟨b, 4, none⟩ = some (.slice a b0 e0) ∧ Below W1.heap.size W1 w')
    (first | exact s0 | assumption | exact kk.out _ _ (by assumption) (by assumption) | exact kk.out _ _ (by assumption) ((Below.refl _ _).alloc (Nat.le_refl _) _))
    (first
      | (go_at_call 47; (with_reducible refine Calls.mono (an _ _ hlit (kb.out _ (by assumption))) ?_); rintro e w2 ⟨v2, rfl, ho2, hb2⟩; obtain ⟨p2, q2, rfl, -, -, -⟩ := id ho2)
      | (go_at_call 76; (with_reducible refine Calls.mono (af _ _ (kb.out _ (by assumption)) ho2) ?_); rintro e w3 ⟨v3, rfl, ho3, hb3⟩; obtain ⟨p3, q3, rfl, -, -, -⟩ := id ho3)
      | (go_at_call 74; (with_reducible refine Calls.mono (at' _ _ ho3) ?_); rintro e w4 ⟨v4, rfl, ho4, hb4⟩))
  all_goals
    have hW : Below W1.heap.size W1 w4 := kb.out _ (by assumption)
    go_wp2
    go_ret
    exact ⟨_, rfl, by rw [HE.out]; exact ho4.has, by rw [Hbb.out]; exact hb1.trans (hW.mono hbz)⟩

set_option maxRecDepth 100000 in
set_option maxHeartbeats 1500000 in
theorem rbytesS_any (w : World) (x : SnapV) (hF : FitsS w x) (hf : FewF x.f.f) (hd : x.d.length ≤ 1000000) :
    Calls Try.prog 24 #[.agg x.arr] w (Outs w (snapB x.s)) := by
  have hb1 : Below w.heap.size w (w.alloc (.cells x.arr 39)) := (Below.refl _ _).alloc (Nat.le_refl _) _
  have k1 := rsnap_any (w.alloc (.cells x.arr 39)) (.slice none 0 0) [] x (Has.nil _) (hF.below hb1) hf hd (by simp)
  rw [List.nil_append] at k1
  generalize snapB x.s = bs at *
  obtain ⟨i, t, ⟨⟨p, n, c⟩, ⟨q, m, d⟩, f⟩, ⟨a, b, e⟩, dd⟩ := x
  unfold SnapV.arr at *
  dsimp only at *
  go_enter Try.func24, Try.ntmps24
  go_wp2_with fail
  refine k1.mono ?_
  rintro e w3 ⟨v3, rfl, ho3, hb3⟩
  go_wp2
  go_ret
  exact ⟨_, rfl, ho3, hb1.trans (hb3.mono hb1.size)⟩
end Go.Proofs.Ytnbaoimjcaeeaaa

/-
  The walk of EntrySnaps.
-/
namespace Go.Proofs.Ytnbaoimjcaeeaaa
open Go.RowKit Go.Shelf

/-- A snapshot's box and another's, and old memory as it was. -/
def BoxSH (w0 w : World) (a b : Nat) (x : SnapV) (y : Hard10) : Prop := SnapAt w a x ∧ HardAt w b y ∧ Below w0.heap.size w0 w
theorem BoxSH.new (w : World) (x : SnapV) (y : Hard10) : BoxSH w ((w.alloc (.cells x.arr 39)).alloc (.cells y.arr 41)) w.heap.size (w.heap.size + 1) x y := by
  have hb1 : Below w.heap.size w (w.alloc (.cells x.arr 39)) := (Below.refl _ _).alloc (Nat.le_refl _) _
  have hbx : SnapAt (w.alloc (.cells x.arr 39)) w.heap.size x := heap_alloc_new w _
  have hz1 : (w.alloc (.cells x.arr 39)).heap.size = w.heap.size + 1 := by simp
  have hb2 := (Below.refl _ (w.alloc (.cells x.arr 39))).alloc (Nat.le_refl _) (.cells y.arr 41)
  have hby : HardAt ((w.alloc (.cells x.arr 39)).alloc (.cells y.arr 41)) (w.heap.size + 1) y := by rw [← hz1]; exact heap_alloc_new _ _
  exact ⟨box_below hbx hb2, hby, hb1.trans (hb2.mono hb1.size)⟩
theorem BoxSH.below {w0 w w' : World} {a b : Nat} {x : SnapV} {y : Hard10} (h : BoxSH w0 w a b x y) (hb : Below w.heap.size w w') : BoxSH w0 w' a b x y := ⟨box_below h.1 hb, box_below h.2.1 hb, h.2.2.trans (hb.mono h.2.2.size)⟩
/-- A message with nothing but a snapshot. -/
def onlyS (x : SnapV) : MsgV := ⟨0, 0, 0, 0, 0, 0, 0, 0, false, 0, nilS10, [], x⟩
theorem onlyS_fits {W : World} {x : SnapV} (h : FitsS W x) : FitsM W (onlyS x) := by
  have z : inI 0 := ⟨by decide, by decide⟩
  exact ⟨z, z, z, z, z, z, z, z, z, HasE.nil W, (show ((0 : Nat) : Int) ≤ 9223372036854775807 by decide), h⟩
theorem snapB_isB (s : Snap10) (h : IsB s.d) : IsB (snapB s) := by
  unfold snapB
  exact IsB.append (IsB.append (IsB.append (zigB_isB _) (zigB_isB _)) (confB_isB _)) (bytB_isB h)
theorem hardB_isB (h : Hard10) : IsB (hardB h) := by
  unfold hardB
  exact IsB.append (IsB.append (zigB_isB _) (zigB_isB _)) (zigB_isB _)

theorem keepG {w1 wA wB : World} {b d : Nat} {xb0 xb1 xb2 xb3 xb4 xd0 xd1 xd2 : Value} (hlb : b < w1.heap.size) (hld : d < w1.heap.size) (h : wA.cell? ⟨b, 0, none⟩ = some xb0 ∧ wA.cell? ⟨b, 1, none⟩ = some xb1 ∧ wA.cell? ⟨b, 2, none⟩ = some xb2 ∧ wA.cell? ⟨b, 3, none⟩ = some xb3 ∧ wA.cell? ⟨b, 4, none⟩ = some xb4 ∧ wA.cell? ⟨d, 0, none⟩ = some xd0 ∧ wA.cell? ⟨d, 1, none⟩ = some xd1 ∧ wA.cell? ⟨d, 2, none⟩ = some xd2 ∧ Below w1.heap.size w1 wA) (hb : Below wA.heap.size wA wB) :
    wB.cell? ⟨b, 0, none⟩ = some xb0 ∧ wB.cell? ⟨b, 1, none⟩ = some xb1 ∧ wB.cell? ⟨b, 2, none⟩ = some xb2 ∧ wB.cell? ⟨b, 3, none⟩ = some xb3 ∧ wB.cell? ⟨b, 4, none⟩ = some xb4 ∧ wB.cell? ⟨d, 0, none⟩ = some xd0 ∧ wB.cell? ⟨d, 1, none⟩ = some xd1 ∧ wB.cell? ⟨d, 2, none⟩ = some xd2 ∧ Below w1.heap.size w1 wB := by
  obtain ⟨h0, h1, h2, h3, h4, h5, h6, h7, hz⟩ := h
  have hs := hz.size
  exact ⟨(hb.cell (p := ⟨b, 0, none⟩) (by exact Nat.lt_of_lt_of_le hlb hs)).trans h0, (hb.cell (p := ⟨b, 1, none⟩) (by exact Nat.lt_of_lt_of_le hlb hs)).trans h1, (hb.cell (p := ⟨b, 2, none⟩) (by exact Nat.lt_of_lt_of_le hlb hs)).trans h2, (hb.cell (p := ⟨b, 3, none⟩) (by exact Nat.lt_of_lt_of_le hlb hs)).trans h3, (hb.cell (p := ⟨b, 4, none⟩) (by exact Nat.lt_of_lt_of_le hlb hs)).trans h4, (hb.cell (p := ⟨d, 0, none⟩) (by exact Nat.lt_of_lt_of_le hld hs)).trans h5, (hb.cell (p := ⟨d, 1, none⟩) (by exact Nat.lt_of_lt_of_le hld hs)).trans h6, (hb.cell (p := ⟨d, 2, none⟩) (by exact Nat.lt_of_lt_of_le hld hs)).trans h7, hz.trans (hb.mono hs)⟩
theorem keepG0 {w1 : World} {b d : Nat} {xb0 xb1 xb2 xb3 xb4 xd0 xd1 xd2 : Value} (h0 : w1.cell? ⟨b, 0, none⟩ = some xb0) (h1 : w1.cell? ⟨b, 1, none⟩ = some xb1) (h2 : w1.cell? ⟨b, 2, none⟩ = some xb2) (h3 : w1.cell? ⟨b, 3, none⟩ = some xb3) (h4 : w1.cell? ⟨b, 4, none⟩ = some xb4) (h5 : w1.cell? ⟨d, 0, none⟩ = some xd0) (h6 : w1.cell? ⟨d, 1, none⟩ = some xd1) (h7 : w1.cell? ⟨d, 2, none⟩ = some xd2) : w1.drew.cell? ⟨b, 0, none⟩ = some xb0 ∧ w1.drew.cell? ⟨b, 1, none⟩ = some xb1 ∧ w1.drew.cell? ⟨b, 2, none⟩ = some xb2 ∧ w1.drew.cell? ⟨b, 3, none⟩ = some xb3 ∧ w1.drew.cell? ⟨b, 4, none⟩ = some xb4 ∧ w1.drew.cell? ⟨d, 0, none⟩ = some xd0 ∧ w1.drew.cell? ⟨d, 1, none⟩ = some xd1 ∧ w1.drew.cell? ⟨d, 2, none⟩ = some xd2 ∧ Below w1.heap.size w1 w1.drew :=
  ⟨h0, h1, h2, h3, h4, h5, h6, h7, ⟨rfl, rfl, rfl, Nat.le_refl _, fun _ _ => rfl⟩⟩
theorem keepGB {w1 wA : World} {b d : Nat} {xb0 xb1 xb2 xb3 xb4 xd0 xd1 xd2 : Value} (h : wA.cell? ⟨b, 0, none⟩ = some xb0 ∧ wA.cell? ⟨b, 1, none⟩ = some xb1 ∧ wA.cell? ⟨b, 2, none⟩ = some xb2 ∧ wA.cell? ⟨b, 3, none⟩ = some xb3 ∧ wA.cell? ⟨b, 4, none⟩ = some xb4 ∧ wA.cell? ⟨d, 0, none⟩ = some xd0 ∧ wA.cell? ⟨d, 1, none⟩ = some xd1 ∧ wA.cell? ⟨d, 2, none⟩ = some xd2 ∧ Below w1.heap.size w1 wA) : Below w1.heap.size w1 wA := h.2.2.2.2.2.2.2.2


set_option maxRecDepth 100000 in
set_option maxHeartbeats 6000000 in
theorem snaps_walk (x : SnapV) (y : Hard10) (w : World) (hx : FitsS w x) (_hy : FitsH y) : Calls Try.prog 4 #[.agg x.arr, .agg y.arr] w fun e w' => e = .returned (.bool true) ∧ Below w.heap.size w w' := by
  have k9 := fun w => lives10_any w
  have hT0 := BoxSH.new w x y
  have fx : ∀ W, Below w.heap.size w W → FitsS W x := fun W h => hx.below h
  have kw := few10_any (onlyS x) _ (onlyS_fits (fx _ hT0.2.2))
  have HFw : Hid (FewM (onlyS x) → FewF x.f.f ∧ x.d.length ≤ 1000000) := fun h => ⟨⟨Nat.le_trans h.vs (by omega), Nat.le_trans h.ls (by omega)⟩, Nat.le_trans h.d (by omega)⟩
  have HB1 : Hid (IsB (snapB x.s)) := snapB_isB _ hx.b
  have HB2 : Hid (IsB (hardB y)) := hardB_isB y
  have m1 : Hid (∀ W, Below w.heap.size w W → Calls Try.prog 21 #[.agg x.arr] W fun e w' => e = .returned (.bool (goodS10 x.s)) ∧ Below W.heap.size W w') := fun W h => goodSnap_any x W (fx W h)
  have m2 : Hid (∀ W, Below w.heap.size w W → Calls Try.prog 22 #[.agg x.arr] W fun e w' => e = .returned (.bool (goodS10 x.s)) ∧ Below W.heap.size W w') := fun W h => rgoodSnap_any x W (fx W h)
  have m3 : Hid (FewF x.f.f ∧ x.d.length ≤ 1000000 → ∀ W, Below w.heap.size w W → Calls Try.prog 23 #[.agg x.arr] W fun e w' => ∃ v, e = .returned v ∧ Owns w' W.heap.size 5 v (snapB x.s) ∧ Below W.heap.size W w') := fun hf W h => bytesS_any W x (fx W h) hf.1 hf.2
  have m4 : Hid (FewF x.f.f ∧ x.d.length ≤ 1000000 → ∀ W, Below w.heap.size w W → Calls Try.prog 24 #[.agg x.arr] W fun e w' => ∃ v, e = .returned v ∧ Has w' v (snapB x.s) ∧ Below W.heap.size W w') := fun hf W h => rbytesS_any W x (fx W h) hf.1 hf.2
  have m5 : Hid (∀ W, Calls Try.prog 25 #[.agg y.arr] W fun e w' => ∃ v, e = .returned v ∧ Owns w' W.heap.size 5 v (hardB y) ∧ Below W.heap.size W w') := fun W => bytesH_any W y
  have m6 : Hid (∀ W, Calls Try.prog 26 #[.agg y.arr] W fun e w' => ∃ v, e = .returned v ∧ Has w' v (hardB y) ∧ Below W.heap.size W w') := fun W => rbytesH_any W y
  generalize goodS10 x.s = r1 at *
  generalize snapB x.s = xs at *
  generalize hardB y = ys at *
  generalize (FewF x.f.f ∧ x.d.length ≤ 1000000) = FP at *
  generalize FewM (onlyS x) = FM at *
  unfold onlyS at kw
  clear hx fx
  obtain ⟨i, t, ⟨⟨p, n, c⟩, ⟨q, m, d⟩, f⟩, ⟨a, b0, e0⟩, dd⟩ := x
  obtain ⟨ht, hv, hc⟩ := y
  unfold MsgV.arr nilS10 at kw
  unfold SnapV.arr Hard10.arr at *
  dsimp only at *
  go_enter Try.func4, Try.ntmps4
  go_wp2_with fail
  refine kw.mono ?_
  rintro _ w1 ⟨r, rfl, hr, hb1⟩
  have hT1 := hT0.below hb1
  have HR : Hid (r = true → FM) := hr
  clear kw hT0 hb1 hr
  cases r with
  | false =>
    go_wp2_with fail
    refine (k9 _).mono ?_
    rintro e w3 ⟨rfl, hb3⟩
    have hT3 := hT1.below hb3
    go_wp2
    go_ret
    exact ⟨rfl, hT3.2.2⟩
  | true =>
    have hFP := HFw.out (HR.out rfl)
    generalize hz : w.heap.size + 1 = e at *
    clear hz HFw HR
    obtain ⟨c0, c1, c2, c3, c4⟩ := hT1.1.cells
    obtain ⟨d0, d1, d2⟩ := hT1.2.1.cells
    dsimp only at c0 c1 c2 c3 c4 d0 d1 d2
    have hlc := box_lt hT1.1
    have hld := box_lt hT1.2.1
    have s0 := keepG0 c0 c1 c2 c3 c4 d0 d1 d2
    have up : ∀ W, Below w1.heap.size w1 W → Below w.heap.size w W := fun W h => hT1.2.2.trans (h.mono hT1.2.2.size)
    have n1 := fun W h => m1.out W (up W h)
    have n2 := fun W h => m2.out W (up W h)
    have n3 := fun W h => m3.out hFP W (up W h)
    have n4 := fun W h => m4.out hFP W (up W h)
    have n5 := m5.out
    have n6 := m6.out
    have hsm : ∀ (x y : Value) (W : World), Has W x xs → Has W y xs → Calls Try.prog 13 #[x, y] W fun e w' => e = .returned (.bool true) ∧ w' = W := fun x y W hx hy => by
      have := same_any x y xs xs W hx hy HB1.out HB1.out
      rwa [beq_self_eq_true] at this
    have hsn : ∀ (x y : Value) (W : World), Has W x ys → Has W y ys → Calls Try.prog 13 #[x, y] W fun e w' => e = .returned (.bool true) ∧ w' = W := fun x y W hx hy => by
      have := same_any x y ys ys W hx hy HB2.out HB2.out
      rwa [beq_self_eq_true] at this
    clear c0 c1 c2 c3 c4 d0 d1 d2 up m1 m2 m3 m4 m5 m6 HB1 HB2 hFP
    generalize w.heap.size = b at *
    go_wp2_with fail
    go_region_held3 (fun w' => w'.cell? ⟨b, 0, none⟩ = some (.int .i64 i) ∧ w'.cell? ⟨b, 1, none⟩ = some (.int .i64 t) ∧ w'.cell? ⟨b, 2, none⟩ = some (.slice p n c) ∧ w'.cell? ⟨b, 3, none⟩ = some (.slice q m d) ∧ w'.cell? ⟨b, 4, none⟩ = some (.slice a b0 e0) ∧ w'.cell? ⟨e, 0, none⟩ = some (.int .i64 ht) ∧ w'.cell? ⟨e, 1, none⟩ = some (.int .i64 hv) ∧ w'.cell? ⟨e, 2, none⟩ = some (.int .i64 hc) ∧ Below w1.heap.size w1 w')
      (first | exact s0 | assumption | exact keepG hlc hld (by assumption) (by assumption))
      (first
        | (go_at_call 21; refine Calls.mono (n1 _ (keepGB (by assumption))) ?_; rintro _ y1 ⟨rfl, g1⟩)
        | (go_at_call 22; refine Calls.mono (n2 _ (keepGB (by assumption))) ?_; rintro _ y2 ⟨rfl, g2⟩)
        | (go_at_call 23; refine Calls.mono (n3 _ (keepGB (by assumption))) ?_; rintro _ y5 ⟨v5, rfl, ho5, g5⟩; obtain ⟨p5, q5, rfl, -, -, -⟩ := id ho5.has; replace ho5 := ho5.has)
        | (go_at_call 24; refine Calls.mono (n4 _ (keepGB (by assumption))) ?_; rintro _ y6 ⟨v6, rfl, ho6, g6⟩; obtain ⟨p6, q6, rfl, -, -, -⟩ := id ho6)
        | (go_at_call 13; (with_reducible refine same_mono (hsm _ _ _ (ho5.below g6 (Nat.le_refl _)) ho6) ?_))
        | (go_at_call 25; refine Calls.mono (n5 _) ?_; rintro _ y7 ⟨v7, rfl, ho7, g7⟩; obtain ⟨p7, q7, rfl, -, -, -⟩ := id ho7.has; replace ho7 := ho7.has)
        | (go_at_call 26; refine Calls.mono (n6 _) ?_; rintro _ y8 ⟨v8, rfl, ho8, g8⟩; obtain ⟨p8, q8, rfl, -, -, -⟩ := id ho8)
        | (go_at_call 13; (with_reducible refine same_mono (hsn _ _ _ (ho7.below g8 (Nat.le_refl _)) ho8) ?_))
        | (go_at_call 8; refine Calls.mono (k9 _) ?_; rintro _ y11 ⟨rfl, g11⟩))
    all_goals
      go_wp2
      go_ret
      exact ⟨rfl, (hT1.below (keepGB (by assumption))).2.2⟩
end Go.Proofs.Ytnbaoimjcaeeaaa
