import Derived.Test.YtnbaoimjcaeeaaaEn8To
import Derived.Test.YtnbaoimjcaeeaaaEn9To
import Derived.Test.YtnbaoimjcaeeaaaCmBTo
import Derived.Test.YtnbaoimjcaeeaaaEo7To
/-
  The walk of EntrySnaps.
-/
namespace Go.Proofs.Ytnbaoimjcaeeaaa
open Go.RowKit Go.Shelf

/-- A snapshot's box and another's, and old memory as it was. -/
def BoxSH (w0 w : World) (a b : Nat) (x : SnapV) (y : Hard10) : Prop := SnapAt w a x ∧ HardAt w b y ∧ Below w0.heap.size w0 w
theorem BoxSH.new (w : World) (x : SnapV) (y : Hard10) : BoxSH w ((w.alloc (.cells x.arr 39)).alloc (.cells y.arr 41)) w.heap.size (w.heap.size + 1) x y := by
  have hb1 : Below w.heap.size w (w.alloc (.cells x.arr 39)) := (Below.refl _ _).alloc (Nat.le_refl _) _
  have hbx : SnapAt (w.alloc (.cells x.arr 39)) w.heap.size x := heap_alloc_new w _
  have hz1 : (w.alloc (.cells x.arr 39)).heap.size = w.heap.size + 1 := by simp
  have hb2 := (Below.refl _ (w.alloc (.cells x.arr 39))).alloc (Nat.le_refl _) (.cells y.arr 41)
  have hby : HardAt ((w.alloc (.cells x.arr 39)).alloc (.cells y.arr 41)) (w.heap.size + 1) y := by rw [← hz1]; exact heap_alloc_new _ _
  exact ⟨box_below hbx hb2, hby, hb1.trans (hb2.mono hb1.size)⟩
theorem BoxSH.below {w0 w w' : World} {a b : Nat} {x : SnapV} {y : Hard10} (h : BoxSH w0 w a b x y) (hb : Below w.heap.size w w') : BoxSH w0 w' a b x y := ⟨box_below h.1 hb, box_below h.2.1 hb, h.2.2.trans (hb.mono h.2.2.size)⟩
/-- A message with nothing but a snapshot. -/
def onlyS (x : SnapV) : MsgV := ⟨0, 0, 0, 0, 0, 0, 0, 0, false, 0, nilS10, [], x⟩
theorem onlyS_fits {W : World} {x : SnapV} (h : FitsS W x) : FitsM W (onlyS x) := by
  have z : inI 0 := ⟨by decide, by decide⟩
  exact ⟨z, z, z, z, z, z, z, z, z, HasE.nil W, (show ((0 : Nat) : Int) ≤ 9223372036854775807 by decide), h⟩
theorem snapB_isB (s : Snap10) (h : IsB s.d) : IsB (snapB s) := by
  unfold snapB
  exact IsB.append (IsB.append (IsB.append (zigB_isB _) (zigB_isB _)) (confB_isB _)) (bytB_isB h)
theorem hardB_isB (h : Hard10) : IsB (hardB h) := by
  unfold hardB
  exact IsB.append (IsB.append (zigB_isB _) (zigB_isB _)) (zigB_isB _)

theorem keepG {w1 wA wB : World} {b d : Nat} {xb0 xb1 xb2 xb3 xb4 xd0 xd1 xd2 : Value} (hlb : b < w1.heap.size) (hld : d < w1.heap.size) (h : wA.cell? ⟨b, 0, none⟩ = some xb0 ∧ wA.cell? ⟨b, 1, none⟩ = some xb1 ∧ wA.cell? ⟨b, 2, none⟩ = some xb2 ∧ wA.cell? ⟨b, 3, none⟩ = some xb3 ∧ wA.cell? ⟨b, 4, none⟩ = some xb4 ∧ wA.cell? ⟨d, 0, none⟩ = some xd0 ∧ wA.cell? ⟨d, 1, none⟩ = some xd1 ∧ wA.cell? ⟨d, 2, none⟩ = some xd2 ∧ Below w1.heap.size w1 wA) (hb : Below wA.heap.size wA wB) :
    wB.cell? ⟨b, 0, none⟩ = some xb0 ∧ wB.cell? ⟨b, 1, none⟩ = some xb1 ∧ wB.cell? ⟨b, 2, none⟩ = some xb2 ∧ wB.cell? ⟨b, 3, none⟩ = some xb3 ∧ wB.cell? ⟨b, 4, none⟩ = some xb4 ∧ wB.cell? ⟨d, 0, none⟩ = some xd0 ∧ wB.cell? ⟨d, 1, none⟩ = some xd1 ∧ wB.cell? ⟨d, 2, none⟩ = some xd2 ∧ Below w1.heap.size w1 wB := by
  obtain ⟨h0, h1, h2, h3, h4, h5, h6, h7, hz⟩ := h
  have hs := hz.size
  exact ⟨(hb.cell (p := ⟨b, 0, none⟩) (by exact Nat.lt_of_lt_of_le hlb hs)).trans h0, (hb.cell (p := ⟨b, 1, none⟩) (by exact Nat.lt_of_lt_of_le hlb hs)).trans h1, (hb.cell (p := ⟨b, 2, none⟩) (by exact Nat.lt_of_lt_of_le hlb hs)).trans h2, (hb.cell (p := ⟨b, 3, none⟩) (by exact Nat.lt_of_lt_of_le hlb hs)).trans h3, (hb.cell (p := ⟨b, 4, none⟩) (by exact Nat.lt_of_lt_of_le hlb hs)).trans h4, (hb.cell (p := ⟨d, 0, none⟩) (by exact Nat.lt_of_lt_of_le hld hs)).trans h5, (hb.cell (p := ⟨d, 1, none⟩) (by exact Nat.lt_of_lt_of_le hld hs)).trans h6, (hb.cell (p := ⟨d, 2, none⟩) (by exact Nat.lt_of_lt_of_le hld hs)).trans h7, hz.trans (hb.mono hs)⟩
theorem keepG0 {w1 : World} {b d : Nat} {xb0 xb1 xb2 xb3 xb4 xd0 xd1 xd2 : Value} (h0 : w1.cell? ⟨b, 0, none⟩ = some xb0) (h1 : w1.cell? ⟨b, 1, none⟩ = some xb1) (h2 : w1.cell? ⟨b, 2, none⟩ = some xb2) (h3 : w1.cell? ⟨b, 3, none⟩ = some xb3) (h4 : w1.cell? ⟨b, 4, none⟩ = some xb4) (h5 : w1.cell? ⟨d, 0, none⟩ = some xd0) (h6 : w1.cell? ⟨d, 1, none⟩ = some xd1) (h7 : w1.cell? ⟨d, 2, none⟩ = some xd2) : w1.drew.cell? ⟨b, 0, none⟩ = some xb0 ∧ w1.drew.cell? ⟨b, 1, none⟩ = some xb1 ∧ w1.drew.cell? ⟨b, 2, none⟩ = some xb2 ∧ w1.drew.cell? ⟨b, 3, none⟩ = some xb3 ∧ w1.drew.cell? ⟨b, 4, none⟩ = some xb4 ∧ w1.drew.cell? ⟨d, 0, none⟩ = some xd0 ∧ w1.drew.cell? ⟨d, 1, none⟩ = some xd1 ∧ w1.drew.cell? ⟨d, 2, none⟩ = some xd2 ∧ Below w1.heap.size w1 w1.drew :=
  ⟨h0, h1, h2, h3, h4, h5, h6, h7, ⟨rfl, rfl, rfl, Nat.le_refl _, fun _ _ => rfl⟩⟩
theorem keepGB {w1 wA : World} {b d : Nat} {xb0 xb1 xb2 xb3 xb4 xd0 xd1 xd2 : Value} (h : wA.cell? ⟨b, 0, none⟩ = some xb0 ∧ wA.cell? ⟨b, 1, none⟩ = some xb1 ∧ wA.cell? ⟨b, 2, none⟩ = some xb2 ∧ wA.cell? ⟨b, 3, none⟩ = some xb3 ∧ wA.cell? ⟨b, 4, none⟩ = some xb4 ∧ wA.cell? ⟨d, 0, none⟩ = some xd0 ∧ wA.cell? ⟨d, 1, none⟩ = some xd1 ∧ wA.cell? ⟨d, 2, none⟩ = some xd2 ∧ Below w1.heap.size w1 wA) : Below w1.heap.size w1 wA := h.2.2.2.2.2.2.2.2


set_option maxRecDepth 100000 in
set_option maxHeartbeats 6000000 in
theorem snaps_walk (x : SnapV) (y : Hard10) (w : World) (hx : FitsS w x) (_hy : FitsH y) : Calls Try.prog 4 #[.agg x.arr, .agg y.arr] w fun e w' => e = .returned (.bool true) ∧ Below w.heap.size w w' := by
  have k9 := fun w => lives10_any w
  have hT0 := BoxSH.new w x y
  have fx : ∀ W, Below w.heap.size w W → FitsS W x := fun W h => hx.below h
  have kw := few10_any (onlyS x) _ (onlyS_fits (fx _ hT0.2.2))
  have HFw : Hid (FewM (onlyS x) → FewF x.f.f ∧ x.d.length ≤ 1000000) := fun h => ⟨⟨Nat.le_trans h.vs (by omega), Nat.le_trans h.ls (by omega)⟩, Nat.le_trans h.d (by omega)⟩
  have HB1 : Hid (IsB (snapB x.s)) := snapB_isB _ hx.b
  have HB2 : Hid (IsB (hardB y)) := hardB_isB y
  have m1 : Hid (∀ W, Below w.heap.size w W → Calls Try.prog 21 #[.agg x.arr] W fun e w' => e = .returned (.bool (goodS10 x.s)) ∧ Below W.heap.size W w') := fun W h => goodSnap_any x W (fx W h)
  have m2 : Hid (∀ W, Below w.heap.size w W → Calls Try.prog 22 #[.agg x.arr] W fun e w' => e = .returned (.bool (goodS10 x.s)) ∧ Below W.heap.size W w') := fun W h => rgoodSnap_any x W (fx W h)
  have m3 : Hid (FewF x.f.f ∧ x.d.length ≤ 1000000 → ∀ W, Below w.heap.size w W → Calls Try.prog 23 #[.agg x.arr] W fun e w' => ∃ v, e = .returned v ∧ Owns w' W.heap.size 5 v (snapB x.s) ∧ Below W.heap.size W w') := fun hf W h => bytesS_any W x (fx W h) hf.1 hf.2
  have m4 : Hid (FewF x.f.f ∧ x.d.length ≤ 1000000 → ∀ W, Below w.heap.size w W → Calls Try.prog 24 #[.agg x.arr] W fun e w' => ∃ v, e = .returned v ∧ Has w' v (snapB x.s) ∧ Below W.heap.size W w') := fun hf W h => rbytesS_any W x (fx W h) hf.1 hf.2
  have m5 : Hid (∀ W, Calls Try.prog 25 #[.agg y.arr] W fun e w' => ∃ v, e = .returned v ∧ Owns w' W.heap.size 5 v (hardB y) ∧ Below W.heap.size W w') := fun W => bytesH_any W y
  have m6 : Hid (∀ W, Calls Try.prog 26 #[.agg y.arr] W fun e w' => ∃ v, e = .returned v ∧ Has w' v (hardB y) ∧ Below W.heap.size W w') := fun W => rbytesH_any W y
  generalize goodS10 x.s = r1 at *
  generalize snapB x.s = xs at *
  generalize hardB y = ys at *
  generalize (FewF x.f.f ∧ x.d.length ≤ 1000000) = FP at *
  generalize FewM (onlyS x) = FM at *
  unfold onlyS at kw
  clear hx fx
  obtain ⟨i, t, ⟨⟨p, n, c⟩, ⟨q, m, d⟩, f⟩, ⟨a, b0, e0⟩, dd⟩ := x
  obtain ⟨ht, hv, hc⟩ := y
  unfold MsgV.arr nilS10 at kw
  unfold SnapV.arr Hard10.arr at *
  dsimp only at *
  go_enter Try.func4, Try.ntmps4
  go_wp2_with fail
  refine kw.mono ?_
  rintro _ w1 ⟨r, rfl, hr, hb1⟩
  have hT1 := hT0.below hb1
  have HR : Hid (r = true → FM) := hr
  clear kw hT0 hb1 hr
  cases r with
  | false =>
    go_wp2_with fail
    refine (k9 _).mono ?_
    rintro e w3 ⟨rfl, hb3⟩
    have hT3 := hT1.below hb3
    go_wp2
    go_ret
    exact ⟨rfl, hT3.2.2⟩
  | true =>
    have hFP := HFw.out (HR.out rfl)
    generalize hz : w.heap.size + 1 = e at *
    clear hz HFw HR
    obtain ⟨c0, c1, c2, c3, c4⟩ := hT1.1.cells
    obtain ⟨d0, d1, d2⟩ := hT1.2.1.cells
    dsimp only at c0 c1 c2 c3 c4 d0 d1 d2
    have hlc := box_lt hT1.1
    have hld := box_lt hT1.2.1
    have s0 := keepG0 c0 c1 c2 c3 c4 d0 d1 d2
    have up : ∀ W, Below w1.heap.size w1 W → Below w.heap.size w W := fun W h => hT1.2.2.trans (h.mono hT1.2.2.size)
    have n1 := fun W h => m1.out W (up W h)
    have n2 := fun W h => m2.out W (up W h)
    have n3 := fun W h => m3.out hFP W (up W h)
    have n4 := fun W h => m4.out hFP W (up W h)
    have n5 := m5.out
    have n6 := m6.out
    have hsm : ∀ (x y : Value) (W : World), Has W x xs → Has W y xs → Calls Try.prog 13 #[x, y] W fun e w' => e = .returned (.bool true) ∧ w' = W := fun x y W hx hy => by
      have := same_any x y xs xs W hx hy HB1.out HB1.out
      rwa [beq_self_eq_true] at this
    have hsn : ∀ (x y : Value) (W : World), Has W x ys → Has W y ys → Calls Try.prog 13 #[x, y] W fun e w' => e = .returned (.bool true) ∧ w' = W := fun x y W hx hy => by
      have := same_any x y ys ys W hx hy HB2.out HB2.out
      rwa [beq_self_eq_true] at this
    clear c0 c1 c2 c3 c4 d0 d1 d2 up m1 m2 m3 m4 m5 m6 HB1 HB2 hFP
    generalize w.heap.size = b at *
    go_wp2_with fail
    go_region_held3 (fun w' => w'.cell? ⟨b, 0, none⟩ = some (.int .i64 i) ∧ w'.cell? ⟨b, 1, none⟩ = some (.int .i64 t) ∧ w'.cell? ⟨b, 2, none⟩ = some (.slice p n c) ∧ w'.cell? ⟨b, 3, none⟩ = some (.slice q m d) ∧ w'.cell? ⟨b, 4, none⟩ = some (.slice a b0 e0) ∧ w'.cell? ⟨e, 0, none⟩ = some (.int .i64 ht) ∧ w'.cell? ⟨e, 1, none⟩ = some (.int .i64 hv) ∧ w'.cell? ⟨e, 2, none⟩ = some (.int .i64 hc) ∧ Below w1.heap.size w1 w')
      (first | exact s0 | assumption | exact keepG hlc hld (by assumption) (by assumption))
      (first
        | (go_at_call 21; refine Calls.mono (n1 _ (keepGB (by assumption))) ?_; rintro _ y1 ⟨rfl, g1⟩)
        | (go_at_call 22; refine Calls.mono (n2 _ (keepGB (by assumption))) ?_; rintro _ y2 ⟨rfl, g2⟩)
        | (go_at_call 23; refine Calls.mono (n3 _ (keepGB (by assumption))) ?_; rintro _ y5 ⟨v5, rfl, ho5, g5⟩; obtain ⟨p5, q5, rfl, -, -, -⟩ := id ho5.has; replace ho5 := ho5.has)
        | (go_at_call 24; refine Calls.mono (n4 _ (keepGB (by assumption))) ?_; rintro _ y6 ⟨v6, rfl, ho6, g6⟩; obtain ⟨p6, q6, rfl, -, -, -⟩ := id ho6)
        | (go_at_call 13; (with_reducible refine same_mono (hsm _ _ _ (ho5.below g6 (Nat.le_refl _)) ho6) ?_))
        | (go_at_call 25; refine Calls.mono (n5 _) ?_; rintro _ y7 ⟨v7, rfl, ho7, g7⟩; obtain ⟨p7, q7, rfl, -, -, -⟩ := id ho7.has; replace ho7 := ho7.has)
        | (go_at_call 26; refine Calls.mono (n6 _) ?_; rintro _ y8 ⟨v8, rfl, ho8, g8⟩; obtain ⟨p8, q8, rfl, -, -, -⟩ := id ho8)
        | (go_at_call 13; (with_reducible refine same_mono (hsn _ _ _ (ho7.below g8 (Nat.le_refl _)) ho8) ?_))
        | (go_at_call 8; refine Calls.mono (k9 _) ?_; rintro _ y11 ⟨rfl, g11⟩))
    all_goals
      go_wp2
      go_ret
      exact ⟨rfl, (hT1.below (keepGB (by assumption))).2.2⟩
end Go.Proofs.Ytnbaoimjcaeeaaa

/-
  Contracts: corbelref10.SameSnap; '==' of what must not be forgotten; the walk of EntryBack.
-/
namespace Go.Proofs.Ytnbaoimjcaeeaaa
open Go.RowKit Go.Shelf

def sameH10 (a b : Hard10) : Bool := decide (a.t = b.t) && decide (a.v = b.v) && decide (a.c = b.c)
theorem sameH10_self (a : Hard10) : sameH10 a a = true := by simp [sameH10]

set_option maxRecDepth 100000 in
set_option maxHeartbeats 1500000 in
theorem eqlH (t v c t' v' c' : Int) (W : World) : Sem.run Try.prog (binOp .eql 41 (.agg #[.int .i64 t, .int .i64 v, .int .i64 c]) (.agg #[.int .i64 t', .int .i64 v', .int .i64 c'])) W = .ok (.bool (sameH10 ⟨t, v, c⟩ ⟨t', v', c'⟩)) W := by
  have u3 := Try.underlying3
  have a3 := Try.isAgg3
  have z3 := Try.sizeOf3
  have hS : Try.prog.underlying 41 = some (.struct (Try.prog.fieldsOf 41)) := by kernel_rfl
  have hp : Try.prog.stoodInHeld 41 = false := by kernel_rfl
  rw [run_eql_struct, show (10000 : Nat) = 9999 + 1 from rfl, run_equalIn_agg W 9999 41 _ _ hS hp]
  simp only [Program.fieldsOf, Try.underlying41]
  go_simp
  unfold sameH10
  by_cases h1 : t = t'
  case neg => simp [h1]
  by_cases h2 : v = v'
  case neg => simp [h1, h2]
  by_cases h3 : c = c'
  case neg => simp [h1, h2, h3]
  simp [h1, h2, h3]

theorem neqH (t v c t' v' c' : Int) (W : World) : Sem.run Try.prog (binOp .neq 41 (.agg #[.int .i64 t, .int .i64 v, .int .i64 c]) (.agg #[.int .i64 t', .int .i64 v', .int .i64 c'])) W = .ok (.bool (!sameH10 ⟨t, v, c⟩ ⟨t', v', c'⟩)) W := by
  have h := eqlH t v c t' v' c' W
  rw [run_eql_struct] at h
  rw [run_neq_struct]
  generalize Sem.run Try.prog (Op.equalIn 10000 41 _ _) W = r at h ⊢
  cases r with
  | ok b w' =>
    simp only [Result.andThen, Result.ok.injEq, Value.bool.injEq] at h ⊢
    obtain ⟨h1, h2⟩ := h
    exact ⟨by rw [h1], h2⟩
  | _ => cases h

theorem grdH (op : BinOp) (o1 o2 : Operand) (x y : Array Value) (W : World) : Sem.run Try.prog (eqGuard op 41 o1 o2 (.agg x) (.agg y)) W = .ok () W :=
  run_eqGuard_agg W op 41 o1 o2 x y (by kernel_rfl)


set_option maxRecDepth 100000 in
set_option maxHeartbeats 2000000 in
theorem rsameSnap_any (x y : SnapV) (w : World) (hx : FitsS w x) (hy : FitsS w y) : Calls Try.prog 30 #[.agg x.arr, .agg y.arr] w fun e w' => e = .returned (.bool (sameS10 x.s y.s)) ∧ Below w.heap.size w w' := by
  have hb1 : Below w.heap.size w (w.alloc (.cells x.arr 39)) := (Below.refl _ _).alloc (Nat.le_refl _) _
  have hz1 : (w.alloc (.cells x.arr 39)).heap.size = w.heap.size + 1 := by simp
  have hb2 := (Below.refl _ (w.alloc (.cells x.arr 39))).alloc (Nat.le_refl _) (.cells y.arr 39)
  have hbx : SnapAt (w.alloc (.cells x.arr 39)) w.heap.size x := heap_alloc_new w _
  have hby : SnapAt ((w.alloc (.cells x.arr 39)).alloc (.cells y.arr 39)) (w.heap.size + 1) y := by rw [← hz1]; exact heap_alloc_new _ _
  have hbx2 : SnapAt _ w.heap.size x := box_below hbx hb2
  have hB := hb1.trans (hb2.mono hb1.size)
  have hbz := hB.size
  have hx2 := (hx.below hb1).below hb2
  have hy2 := (hy.below hb1).below hb2
  have ks := rsameConf_any x.f y.f _ hx2.f hy2.f
  have kd : Hid (∀ W, Below w.heap.size w W → Calls Try.prog 13 #[.slice x.w.p x.w.n x.w.c, .slice y.w.p y.w.n y.w.c] W fun e w' => e = .returned (.bool (decide (x.d = y.d))) ∧ w' = W) := fun W h => by have := same_any (.slice x.w.p x.w.n x.w.c) (.slice y.w.p y.w.n y.w.c) x.d y.d W (hx.w.below h (Nat.le_refl _)) (hy.w.below h (Nat.le_refl _)) hx.b hy.b; rwa [show (x.d == y.d) = decide (x.d = y.d) by rw [Bool.eq_iff_iff]; simp] at this
  have HS : Hid (sameS10 x.s y.s = (decide (x.i = y.i) && decide (x.t = y.t) && sameF10 x.f.f y.f.f && decide (x.d = y.d))) := rfl
  generalize sameF10 x.f.f y.f.f = rf at *
  generalize decide (x.d = y.d) = rd at *
  generalize hr : sameS10 x.s y.s = r at *
  clear hr hx hy hb1 hb2 hx2 hy2 hbx hz1
  obtain ⟨i, t, ⟨⟨p, n, c⟩, ⟨q, m, d⟩, f⟩, ⟨a, b, e⟩, dd⟩ := x
  obtain ⟨i', t', ⟨⟨p', n', c'⟩, ⟨q', m', d'⟩, f'⟩, ⟨a', b', e'⟩, dd'⟩ := y
  unfold SnapV.arr at *
  unfold ConfV.arr at *
  dsimp only at *
  by_cases h1 : i = i'
  case neg =>
    have HF : Hid (r = false) := by rw [Hid, HS.out, decide_eq_false h1]; simp
    have e9 : (i == i') = false := by simpa using h1
    clear HS ks kd
    go_enter Try.func30, Try.ntmps30
    go_wp2
    go_ret
    rw [HF.out]
    exact ⟨rfl, hB⟩
  subst h1
  by_cases h2 : t = t'
  case neg =>
    have HF : Hid (r = false) := by rw [Hid, HS.out, decide_eq_false h2]; simp
    have e9 : (t == t') = false := by simpa using h2
    clear HS ks kd
    go_enter Try.func30, Try.ntmps30
    go_wp2
    go_ret
    rw [HF.out]
    exact ⟨rfl, hB⟩
  subst h2
  have HF : Hid (r = (rf && rd)) := by rw [Hid, HS.out, decide_eq_true rfl, decide_eq_true rfl]; rfl
  clear HS
  cases rf with
  | false =>
    go_enter Try.func30, Try.ntmps30
    go_wp2_with fail
    refine ks.mono ?_
    rintro _ w3 ⟨rfl, hb3⟩
    have hb9 := hB.trans (hb3.mono hbz)
    go_wp2
    go_ret
    rw [HF.out]
    exact ⟨rfl, hb9⟩
  | true =>
    go_enter Try.func30, Try.ntmps30
    go_wp2_with fail
    generalize (w.alloc (.cells #[.int .i64 i, .int .i64 t, .slice p n c, .slice q m d, .slice a b e] 39)).alloc (.cells #[.int .i64 i, .int .i64 t, .slice p' n' c', .slice q' m' d', .slice a' b' e'] 39) = W2 at *
    refine ks.mono ?_
    rintro _ w3 ⟨rfl, hb3⟩
    have hb9 := hB.trans (hb3.mono hbz)
    have k4 := kd.out w3 hb9
    have e1 : SnapAt w3 w.heap.size ⟨i, t, ⟨⟨p, n, c⟩, ⟨q, m, d⟩, f⟩, ⟨a, b, e⟩, dd⟩ := box_below hbx2 hb3
    have e2 : SnapAt w3 (w.heap.size + 1) ⟨i, t, ⟨⟨p', n', c'⟩, ⟨q', m', d'⟩, f'⟩, ⟨a', b', e'⟩, dd'⟩ := box_below hby hb3
    obtain ⟨c0, c1, c2, c3, c4⟩ := e1.cells
    obtain ⟨d0, d1, d2, d3, d4⟩ := e2.cells
    dsimp only at c0 c1 c2 c3 c4 d0 d1 d2 d3 d4
    have hl1 := box_lt e1
    have hl2 := box_lt e2
    clear ks hbx2 hby
    go_wp2_with fail
    refine same_mono k4 ?_
    go_wp2
    go_ret
    rw [HF.out]
    exact ⟨by simp, hb9⟩

theorem backE (e : Ent10) (h : ShortE10 1152921504606846976 e) (hg : goodE10 e = true) : whole10 goodE10 noE10 (pent10 (entB e, false)) = (e, 0) := by
  rw [(ent10_sim 1152921504606846976 (by decide)).whole noE10 (entB e, false)]
  have := ent10_back 1152921504606846976 e [] h (by decide) hg
  rw [List.append_nil] at this
  rw [this]
  unfold whole10
  rw [hg]
  rfl
theorem whole_good {α : Type} (g : α → Bool) (n : α) (r : α × St) : (whole10 g n r).2 = 0 ∧ g (whole10 g n r).1 = true ∨ whole10 g n r = (n, 8) := by
  unfold whole10
  split
  · rename_i h
    rw [Bool.and_eq_true] at h
    exact .inl ⟨rfl, h.2⟩
  · exact .inr rfl
theorem backH (h : Hard10) (hf : FitsH h) : whole10 goodH10 noH10 (hard10 (hardB h, false)) = if goodH10 h then (h, 0) else (noH10, 8) := by
  have := hard10_back h [] hf.1 hf.2.1 hf.2.2
  rw [List.append_nil] at this
  rw [this]
  unfold whole10
  simp
theorem backS (s : Snap10) (h : ShortS10 1152921504606846976 s) : whole10 goodS10 noS10 (snap10 9 (snapB s, false)) = if goodS10 s then (s, 0) else (noS10, 8) := by
  rw [(snap10_sim 1152921504606846976 (by decide)).whole noS10 (snapB s, false)]
  have := snap10_back 1152921504606846976 s [] h (by decide)
  rw [List.append_nil] at this
  rw [this]
  unfold whole10
  simp
theorem snapB_len {s : Snap10} (h : FewF s.f) (hd : s.d.length ≤ 1000000) : (snapB s).length ≤ 1100000 := by
  unfold snapB
  have h1 := zigB_le s.i
  have h2 := zigB_le s.t
  have h3 := confB_len h
  have h4 := bytB_len s.d
  simp only [List.length_append]
  omega
theorem hardB_len (h : Hard10) : (hardB h).length ≤ 27 := by
  unfold hardB
  have h1 := zigB_le h.t
  have h2 := zigB_le h.v
  have h3 := zigB_le h.c
  simp only [List.length_append]
  omega

/-- Three boxes, and old memory as it was. -/
def Box3 (w0 w : World) (a b c : Nat) (x : EntV) (y : Hard10) (z : SnapV) : Prop := EntAt w a x ∧ HardAt w b y ∧ SnapAt w c z ∧ Below w0.heap.size w0 w
theorem Box3.below {w0 w w' : World} {a b c : Nat} {x : EntV} {y : Hard10} {z : SnapV} (h : Box3 w0 w a b c x y z) (hb : Below w.heap.size w w') : Box3 w0 w' a b c x y z := ⟨box_below h.1 hb, box_below h.2.1 hb, box_below h.2.2.1 hb, h.2.2.2.trans (hb.mono h.2.2.2.size)⟩
theorem Box3.new (w : World) (x : EntV) (y : Hard10) (z : SnapV) : Box3 w (((w.alloc (.cells x.arr 28)).alloc (.cells y.arr 41)).alloc (.cells z.arr 39)) w.heap.size (w.heap.size + 1) (w.heap.size + 1 + 1) x y z := by
  have hb1 : Below w.heap.size w (w.alloc (.cells x.arr 28)) := (Below.refl _ _).alloc (Nat.le_refl _) _
  have hbx : EntAt (w.alloc (.cells x.arr 28)) w.heap.size x := heap_alloc_new w _
  have hz1 : (w.alloc (.cells x.arr 28)).heap.size = w.heap.size + 1 := by simp
  generalize w.alloc (.cells x.arr 28) = w1 at *
  have hb2 : Below w1.heap.size w1 (w1.alloc (.cells y.arr 41)) := (Below.refl _ _).alloc (Nat.le_refl _) _
  have hby : HardAt (w1.alloc (.cells y.arr 41)) w1.heap.size y := heap_alloc_new w1 _
  have hz2 : (w1.alloc (.cells y.arr 41)).heap.size = w1.heap.size + 1 := by simp
  generalize w1.alloc (.cells y.arr 41) = w2 at *
  have hb3 : Below w2.heap.size w2 (w2.alloc (.cells z.arr 39)) := (Below.refl _ _).alloc (Nat.le_refl _) _
  have hbz : SnapAt (w2.alloc (.cells z.arr 39)) w2.heap.size z := heap_alloc_new w2 _
  rw [hz2, hz1] at hbz
  rw [hz1] at hby
  exact ⟨box_below (box_below hbx hb2) hb3, box_below hby hb3, hbz, (hb1.trans (hb2.mono hb1.size)).trans (hb3.mono (by omega))⟩
end Go.Proofs.Ytnbaoimjcaeeaaa
