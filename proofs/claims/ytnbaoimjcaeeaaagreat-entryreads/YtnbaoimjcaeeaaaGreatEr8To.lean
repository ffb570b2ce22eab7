import Derived.Test.YtnbaoimjcaeeaaaGreatEo6To
import Derived.Test.YtnbaoimjcaeeaaaGreatEn7To
import Derived.Test.YtnbaoimjcaeeaaaGreatEr3To
/-
  Contracts: corbelref10.SameSnap; '==' of what must not be forgotten; the walk of EntryBack.
-/
namespace Go.Proofs.YtnbaoimjcaeeaaaGreat
open Go.RowKit Go.Shelf

def sameH10 (a b : Hard10) : Bool := decide (a.t = b.t) && decide (a.v = b.v) && decide (a.c = b.c)
theorem sameH10_self (a : Hard10) : sameH10 a a = true := by simp [sameH10]

set_option maxRecDepth 100000 in
set_option maxHeartbeats 1500000 in
theorem eqlH (t v c t' v' c' : Int) (W : World) : Sem.run Tryz.prog (binOp .eql 37 (.agg #[.int .i64 t, .int .i64 v, .int .i64 c]) (.agg #[.int .i64 t', .int .i64 v', .int .i64 c'])) W = .ok (.bool (sameH10 ⟨t, v, c⟩ ⟨t', v', c'⟩)) W := by
  have u3 := Tryz.underlying3
  have a3 := Tryz.isAgg3
  have z3 := Tryz.sizeOf3
  have hS : Tryz.prog.underlying 37 = some (.struct (Tryz.prog.fieldsOf 37)) := by kernel_rfl
  have hp : Tryz.prog.stoodInHeld 37 = false := by kernel_rfl
  rw [run_eql_struct, show (10000 : Nat) = 9999 + 1 from rfl, run_equalIn_agg W 9999 37 _ _ hS hp]
  simp only [Program.fieldsOf, Tryz.underlying37]
  go_simp
  unfold sameH10
  by_cases h1 : t = t'
  case neg => simp [h1]
  by_cases h2 : v = v'
  case neg => simp [h1, h2]
  by_cases h3 : c = c'
  case neg => simp [h1, h2, h3]
  simp [h1, h2, h3]

theorem neqH (t v c t' v' c' : Int) (W : World) : Sem.run Tryz.prog (binOp .neq 37 (.agg #[.int .i64 t, .int .i64 v, .int .i64 c]) (.agg #[.int .i64 t', .int .i64 v', .int .i64 c'])) W = .ok (.bool (!sameH10 ⟨t, v, c⟩ ⟨t', v', c'⟩)) W := by
  have h := eqlH t v c t' v' c' W
  rw [run_eql_struct] at h
  rw [run_neq_struct]
  generalize Sem.run Tryz.prog (Op.equalIn 10000 37 _ _) W = r at h ⊢
  cases r with
  | ok b w' =>
    simp only [Result.andThen, Result.ok.injEq, Value.bool.injEq] at h ⊢
    obtain ⟨h1, h2⟩ := h
    exact ⟨by rw [h1], h2⟩
  | _ => cases h

theorem grdH (op : BinOp) (o1 o2 : Operand) (x y : Array Value) (W : World) : Sem.run Tryz.prog (eqGuard op 37 o1 o2 (.agg x) (.agg y)) W = .ok () W :=
  run_eqGuard_agg W op 37 o1 o2 x y (by kernel_rfl)


set_option maxRecDepth 100000 in
set_option maxHeartbeats 2000000 in
theorem rsameSnap_any (x y : SnapV) (w : World) (hx : FitsS w x) (hy : FitsS w y) : Calls Tryz.prog 13 #[.agg x.arr, .agg y.arr] w fun e w' => e = .returned (.bool (sameS10 x.s y.s)) ∧ Below w.heap.size w w' := by
  have hb1 : Below w.heap.size w (w.alloc (.cells x.arr 43)) := (Below.refl _ _).alloc (Nat.le_refl _) _
  have hz1 : (w.alloc (.cells x.arr 43)).heap.size = w.heap.size + 1 := by simp
  have hb2 := (Below.refl _ (w.alloc (.cells x.arr 43))).alloc (Nat.le_refl _) (.cells y.arr 43)
  have hbx : SnapAt (w.alloc (.cells x.arr 43)) w.heap.size x := heap_alloc_new w _
  have hby : SnapAt ((w.alloc (.cells x.arr 43)).alloc (.cells y.arr 43)) (w.heap.size + 1) y := by rw [← hz1]; exact heap_alloc_new _ _
  have hbx2 : SnapAt _ w.heap.size x := box_below hbx hb2
  have hB := hb1.trans (hb2.mono hb1.size)
  have hbz := hB.size
  have hx2 := (hx.below hb1).below hb2
  have hy2 := (hy.below hb1).below hb2
  have ks := rsameConf_any x.f y.f _ hx2.f hy2.f
  have kd : Hid (∀ W, Below w.heap.size w W → Calls Tryz.prog 19 #[.slice x.w.p x.w.n x.w.c, .slice y.w.p y.w.n y.w.c] W fun e w' => e = .returned (.bool (decide (x.d = y.d))) ∧ w' = W) := fun W h => by have := same_any (.slice x.w.p x.w.n x.w.c) (.slice y.w.p y.w.n y.w.c) x.d y.d W (hx.w.below h (Nat.le_refl _)) (hy.w.below h (Nat.le_refl _)) hx.b hy.b; rwa [show (x.d == y.d) = decide (x.d = y.d) by rw [Bool.eq_iff_iff]; simp] at this
  have HS : Hid (sameS10 x.s y.s = (decide (x.i = y.i) && decide (x.t = y.t) && sameF10 x.f.f y.f.f && decide (x.d = y.d))) := rfl
  generalize sameF10 x.f.f y.f.f = rf at *
  generalize decide (x.d = y.d) = rd at *
  generalize hr : sameS10 x.s y.s = r at *
  clear hr hx hy hb1 hb2 hx2 hy2 hbx hz1
  obtain ⟨i, t, ⟨⟨p, n, c⟩, ⟨q, m, d⟩, f⟩, ⟨a, b, e⟩, dd⟩ := x
  obtain ⟨i', t', ⟨⟨p', n', c'⟩, ⟨q', m', d'⟩, f'⟩, ⟨a', b', e'⟩, dd'⟩ := y
  unfold SnapV.arr at *
  unfold ConfV.arr at *
  dsimp only at *
  by_cases h1 : i = i'
  case neg =>
    have HF : Hid (r = false) := by rw [Hid, HS.out, decide_eq_false h1]; simp
    have e9 : (i == i') = false := by simpa using h1
    clear HS ks kd
    go_enter Tryz.func13, Tryz.ntmps13
    go_wp2
    go_ret
    rw [HF.out]
    exact ⟨rfl, hB⟩
  subst h1
  by_cases h2 : t = t'
  case neg =>
    have HF : Hid (r = false) := by rw [Hid, HS.out, decide_eq_false h2]; simp
    have e9 : (t == t') = false := by simpa using h2
    clear HS ks kd
    go_enter Tryz.func13, Tryz.ntmps13
    go_wp2
    go_ret
    rw [HF.out]
    exact ⟨rfl, hB⟩
  subst h2
  have HF : Hid (r = (rf && rd)) := by rw [Hid, HS.out, decide_eq_true rfl, decide_eq_true rfl]; rfl
  clear HS
  cases rf with
  | false =>
    go_enter Tryz.func13, Tryz.ntmps13
    go_wp2_with fail
    refine ks.mono ?_
    rintro _ w3 ⟨rfl, hb3⟩
    have hb9 := hB.trans (hb3.mono hbz)
    go_wp2
    go_ret
    rw [HF.out]
    exact ⟨rfl, hb9⟩
  | true =>
    go_enter Tryz.func13, Tryz.ntmps13
    go_wp2_with fail
    generalize (w.alloc (.cells #[.int .i64 i, .int .i64 t, .slice p n c, .slice q m d, .slice a b e] 43)).alloc (.cells #[.int .i64 i, .int .i64 t, .slice p' n' c', .slice q' m' d', .slice a' b' e'] 43) = W2 at *
    refine ks.mono ?_
    rintro _ w3 ⟨rfl, hb3⟩
    have hb9 := hB.trans (hb3.mono hbz)
    have k4 := kd.out w3 hb9
    have e1 : SnapAt w3 w.heap.size ⟨i, t, ⟨⟨p, n, c⟩, ⟨q, m, d⟩, f⟩, ⟨a, b, e⟩, dd⟩ := box_below hbx2 hb3
    have e2 : SnapAt w3 (w.heap.size + 1) ⟨i, t, ⟨⟨p', n', c'⟩, ⟨q', m', d'⟩, f'⟩, ⟨a', b', e'⟩, dd'⟩ := box_below hby hb3
    obtain ⟨c0, c1, c2, c3, c4⟩ := e1.cells
    obtain ⟨d0, d1, d2, d3, d4⟩ := e2.cells
    dsimp only at c0 c1 c2 c3 c4 d0 d1 d2 d3 d4
    have hl1 := box_lt e1
    have hl2 := box_lt e2
    clear ks hbx2 hby
    go_wp2_with fail
    refine same_mono k4 ?_
    go_wp2
    go_ret
    rw [HF.out]
    exact ⟨by simp, hb9⟩

theorem backE (e : Ent10) (h : ShortE10 1152921504606846976 e) (hg : goodE10 e = true) : whole10 goodE10 noE10 (pent10 (entB e, false)) = (e, 0) := by
  rw [(ent10_sim 1152921504606846976 (by decide)).whole noE10 (entB e, false)]
  have := ent10_back 1152921504606846976 e [] h (by decide) hg
  rw [List.append_nil] at this
  rw [this]
  unfold whole10
  rw [hg]
  rfl
theorem whole_good {α : Type} (g : α → Bool) (n : α) (r : α × St) : (whole10 g n r).2 = 0 ∧ g (whole10 g n r).1 = true ∨ whole10 g n r = (n, 8) := by
  unfold whole10
  split
  · rename_i h
    rw [Bool.and_eq_true] at h
    exact .inl ⟨rfl, h.2⟩
  · exact .inr rfl
theorem backH (h : Hard10) (hf : FitsH h) : whole10 goodH10 noH10 (hard10 (hardB h, false)) = if goodH10 h then (h, 0) else (noH10, 8) := by
  have := hard10_back h [] hf.1 hf.2.1 hf.2.2
  rw [List.append_nil] at this
  rw [this]
  unfold whole10
  simp
theorem backS (s : Snap10) (h : ShortS10 1152921504606846976 s) : whole10 goodS10 noS10 (snap10 9 (snapB s, false)) = if goodS10 s then (s, 0) else (noS10, 8) := by
  rw [(snap10_sim 1152921504606846976 (by decide)).whole noS10 (snapB s, false)]
  have := snap10_back 1152921504606846976 s [] h (by decide)
  rw [List.append_nil] at this
  rw [this]
  unfold whole10
  simp
theorem snapB_len {s : Snap10} (h : FewF s.f) (hd : s.d.length ≤ 1000000) : (snapB s).length ≤ 1100000 := by
  unfold snapB
  have h1 := zigB_le s.i
  have h2 := zigB_le s.t
  have h3 := confB_len h
  have h4 := bytB_len s.d
  simp only [List.length_append]
  omega
theorem hardB_len (h : Hard10) : (hardB h).length ≤ 27 := by
  unfold hardB
  have h1 := zigB_le h.t
  have h2 := zigB_le h.v
  have h3 := zigB_le h.c
  simp only [List.length_append]
  omega

/-- Three boxes, and old memory as it was. -/
def Box3 (w0 w : World) (a b c : Nat) (x : EntV) (y : Hard10) (z : SnapV) : Prop := EntAt w a x ∧ HardAt w b y ∧ SnapAt w c z ∧ Below w0.heap.size w0 w
theorem Box3.below {w0 w w' : World} {a b c : Nat} {x : EntV} {y : Hard10} {z : SnapV} (h : Box3 w0 w a b c x y z) (hb : Below w.heap.size w w') : Box3 w0 w' a b c x y z := ⟨box_below h.1 hb, box_below h.2.1 hb, box_below h.2.2.1 hb, h.2.2.2.trans (hb.mono h.2.2.2.size)⟩
theorem Box3.new (w : World) (x : EntV) (y : Hard10) (z : SnapV) : Box3 w (((w.alloc (.cells x.arr 30)).alloc (.cells y.arr 37)).alloc (.cells z.arr 43)) w.heap.size (w.heap.size + 1) (w.heap.size + 1 + 1) x y z := by
  have hb1 : Below w.heap.size w (w.alloc (.cells x.arr 30)) := (Below.refl _ _).alloc (Nat.le_refl _) _
  have hbx : EntAt (w.alloc (.cells x.arr 30)) w.heap.size x := heap_alloc_new w _
  have hz1 : (w.alloc (.cells x.arr 30)).heap.size = w.heap.size + 1 := by simp
  generalize w.alloc (.cells x.arr 30) = w1 at *
  have hb2 : Below w1.heap.size w1 (w1.alloc (.cells y.arr 37)) := (Below.refl _ _).alloc (Nat.le_refl _) _
  have hby : HardAt (w1.alloc (.cells y.arr 37)) w1.heap.size y := heap_alloc_new w1 _
  have hz2 : (w1.alloc (.cells y.arr 37)).heap.size = w1.heap.size + 1 := by simp
  generalize w1.alloc (.cells y.arr 37) = w2 at *
  have hb3 : Below w2.heap.size w2 (w2.alloc (.cells z.arr 43)) := (Below.refl _ _).alloc (Nat.le_refl _) _
  have hbz : SnapAt (w2.alloc (.cells z.arr 43)) w2.heap.size z := heap_alloc_new w2 _
  rw [hz2, hz1] at hbz
  rw [hz1] at hby
  exact ⟨box_below (box_below hbx hb2) hb3, box_below hby hb3, hbz, (hb1.trans (hb2.mono hb1.size)).trans (hb3.mono (by omega))⟩
end Go.Proofs.YtnbaoimjcaeeaaaGreat

/-
  The walk of EntryReads.
-/
namespace Go.Proofs.YtnbaoimjcaeeaaaGreat
open Go.RowKit Go.Shelf

set_option maxRecDepth 100000 in
set_option maxHeartbeats 8000000 in
theorem reads10_walk (a0 : Option Addr) (len0 cap0 : Nat) (z0 : List Int) (e0 : z0.length = len0) (w : World) (hv : Has w (.slice a0 len0 cap0) z0) (hB : IsB z0) (hl : len0 ≤ 140737488351232) :
    Calls Tryz.prog 3 #[.slice a0 len0 cap0] w fun e w' => e = .returned (.bool true) ∧ Below w.heap.size w w' := by
  have k9 := fun w => lives10_any w
  by_cases hlong : 5000 < len0
  · go_enter Tryz.func3, Tryz.ntmps3
    go_wp2_with fail
    refine (k9 _).mono ?_
    rintro _ w1 ⟨rfl, hb1⟩
    go_wp2
    go_ret
    exact ⟨rfl, hb1⟩
  have hz : z0.length ≤ 1073741824 := by omega
  have m1 : Hid (∀ W, Below w.heap.size w W → Calls Tryz.prog 6 #[.slice a0 len0 cap0] W fun e w' => ∃ X : EntV, e = .returned (.tuple #[.agg X.arr, .int .i64 (whole10 goodE10 noE10 (pent10 (z0, false))).2]) ∧ X.e = (whole10 goodE10 noE10 (pent10 (z0, false))).1 ∧ FitsE w' X ∧ Below W.heap.size W w') := fun W h => readE_any _ z0 W (hv.below h (Nat.le_refl _)) hB hz
  have m2 : Hid (∀ W, Below w.heap.size w W → Calls Tryz.prog 7 #[.slice a0 len0 cap0] W fun e w' => ∃ X : EntV, e = .returned (.tuple #[.agg X.arr, .int .i64 (whole10 goodE10 noE10 (pent10 (z0, false))).2]) ∧ X.e = (whole10 goodE10 noE10 (pent10 (z0, false))).1 ∧ FitsE w' X ∧ Below W.heap.size W w') := fun W h => rreadE_any _ z0 W (hv.below h (Nat.le_refl _)) hB hz
  have m3 : Hid (∀ W, Below w.heap.size w W → Calls Tryz.prog 8 #[.slice a0 len0 cap0] W fun e w' => ∃ X : Hard10, e = .returned (.tuple #[.agg X.arr, .int .i64 (whole10 goodH10 noH10 (hard10 (z0, false))).2]) ∧ X = (whole10 goodH10 noH10 (hard10 (z0, false))).1 ∧ Below W.heap.size W w') := fun W h => (readH_any _ z0 W (hv.below h (Nat.le_refl _)) hB hz).mono fun e w' ⟨X, h1, h2, _, h3⟩ => ⟨X, h1, h2, h3⟩
  have m4 : Hid (∀ W, Below w.heap.size w W → Calls Tryz.prog 9 #[.slice a0 len0 cap0] W fun e w' => ∃ X : Hard10, e = .returned (.tuple #[.agg X.arr, .int .i64 (whole10 goodH10 noH10 (hard10 (z0, false))).2]) ∧ X = (whole10 goodH10 noH10 (hard10 (z0, false))).1 ∧ Below W.heap.size W w') := fun W h => rreadH_any _ z0 W (hv.below h (Nat.le_refl _)) hB hz
  have m5 : Hid (∀ W, Below w.heap.size w W → Calls Tryz.prog 10 #[.slice a0 len0 cap0] W fun e w' => ∃ X : SnapV, e = .returned (.tuple #[.agg X.arr, .int .i64 (whole10 goodS10 noS10 (snap10 9 (z0, false))).2]) ∧ X.s = (whole10 goodS10 noS10 (snap10 9 (z0, false))).1 ∧ FitsS w' X ∧ Below W.heap.size W w') := fun W h => readS_any _ z0 W (hv.below h (Nat.le_refl _)) hB hz
  have m6 : Hid (∀ W, Below w.heap.size w W → Calls Tryz.prog 11 #[.slice a0 len0 cap0] W fun e w' => ∃ X : SnapV, e = .returned (.tuple #[.agg X.arr, .int .i64 (whole10 goodS10 noS10 (snap10 9 (z0, false))).2]) ∧ X.s = (whole10 goodS10 noS10 (snap10 9 (z0, false))).1 ∧ FitsS w' X ∧ Below W.heap.size W w') := fun W h => rreadS_any _ z0 W (hv.below h (Nat.le_refl _)) hB hz
  have heq := fun t v c W => eqlH t v c t v c W
  simp only [show ∀ t v c : Int, sameH10 ⟨t, v, c⟩ ⟨t, v, c⟩ = true from fun t v c => sameH10_self _] at heq
  have hgr := grdH
  generalize whole10 goodE10 noE10 (pent10 (z0, false)) = R1 at *
  generalize whole10 goodH10 noH10 (hard10 (z0, false)) = R2 at *
  generalize whole10 goodS10 noS10 (snap10 9 (z0, false)) = R3 at *
  obtain ⟨x1, E1⟩ := R1
  obtain ⟨⟨yt, yv, yc⟩, E2⟩ := R2
  obtain ⟨x3, E3⟩ := R3
  dsimp only at m1 m2 m3 m4 m5 m6
  clear hv hB hz hl
  go_enter Tryz.func3, Tryz.ntmps3
  have hB0 : Below w.heap.size w w := Below.refl _ _
  have k1 := m1.out w hB0
  go_wp2_with fail
  refine k1.mono ?_
  rintro _ t1 ⟨X, rfl, hX, fX, hb⟩
  have HX1 : Hid (X.e = x1) := hX
  have hba : Below t1.heap.size t1 (t1.alloc (.cells X.arr 30)) := (Below.refl _ _).alloc (Nat.le_refl _) _
  have hbx := hb.trans (hba.mono hb.size)
  have hB1 := hB0.trans (hbx.mono hB0.size)
  have hA1 : EntAt (t1.alloc (.cells X.arr 30)) t1.heap.size X := heap_alloc_new t1 _
  have f1 := fX.below hba
  clear k1 m1 hba hbx hb hB0 hX fX
  obtain ⟨ui, ut, uk, ⟨uck, ucs, ucq, ukey, uold, uval, uunt, ulim⟩, ⟨⟨up, un, uc⟩, ⟨uq, um, ud⟩, uf⟩⟩ := X
  unfold EntV.arr at *
  dsimp only at *
  go_upto_region 4 with fail
  generalize t1.alloc (.cells #[.int .i64 ui, .int .i64 ut, .int .i64 uk, .int .i64 uck, .int .i64 ucs, .int .i64 ucq, .string ukey, .string uold, .string uval, .string uunt, .int .i64 ulim, .slice up un uc, .slice uq um ud] 30) = T1 at *
  replace hA1 : EntAt T1 t1.heap.size ⟨ui, ut, uk, ⟨uck, ucs, ucq, ukey, uold, uval, uunt, ulim⟩, ⟨⟨up, un, uc⟩, ⟨uq, um, ud⟩, uf⟩⟩ := hA1
  replace f1 : FitsE T1 ⟨ui, ut, uk, ⟨uck, ucs, ucq, ukey, uold, uval, uunt, ulim⟩, ⟨⟨up, un, uc⟩, ⟨uq, um, ud⟩, uf⟩⟩ := f1
  generalize t1.heap.size = q1 at *
  have k2 := m2.out T1 hB1
  go_wp2_with fail
  refine k2.mono ?_
  rintro _ t2 ⟨X, rfl, hX, fX, hb⟩
  have HX2 : Hid (X.e = x1) := hX
  have hba : Below t2.heap.size t2 (t2.alloc (.cells X.arr 30)) := (Below.refl _ _).alloc (Nat.le_refl _) _
  have hbx := hb.trans (hba.mono hb.size)
  have hB2 := hB1.trans (hbx.mono hB1.size)
  have hA2 : EntAt (t2.alloc (.cells X.arr 30)) t2.heap.size X := heap_alloc_new t2 _
  have f2 := fX.below hba
  have hA1' : EntAt _ q1 ⟨ui, ut, uk, ⟨uck, ucs, ucq, ukey, uold, uval, uunt, ulim⟩, ⟨⟨up, un, uc⟩, ⟨uq, um, ud⟩, uf⟩⟩ := box_below hA1 hbx
  clear hA1
  have hA1 := hA1'
  clear hA1'
  have f1' := f1.below hbx
  clear f1
  have f1 := f1'
  clear f1'
  clear k2 m2 hba hbx hb hB1 hX fX
  obtain ⟨vi, vt, vk, ⟨vck, vcs, vcq, vkey, vold, vval, vunt, vlim⟩, ⟨⟨vp, vn, vc⟩, ⟨vq, vm, vd⟩, vf⟩⟩ := X
  unfold EntV.arr at *
  dsimp only at *
  go_upto_region 5 with fail
  generalize t2.alloc (.cells #[.int .i64 vi, .int .i64 vt, .int .i64 vk, .int .i64 vck, .int .i64 vcs, .int .i64 vcq, .string vkey, .string vold, .string vval, .string vunt, .int .i64 vlim, .slice vp vn vc, .slice vq vm vd] 30) = T2 at *
  replace hA2 : EntAt T2 t2.heap.size ⟨vi, vt, vk, ⟨vck, vcs, vcq, vkey, vold, vval, vunt, vlim⟩, ⟨⟨vp, vn, vc⟩, ⟨vq, vm, vd⟩, vf⟩⟩ := hA2
  replace hA1 : EntAt T2 q1 ⟨ui, ut, uk, ⟨uck, ucs, ucq, ukey, uold, uval, uunt, ulim⟩, ⟨⟨up, un, uc⟩, ⟨uq, um, ud⟩, uf⟩⟩ := hA1
  replace f1 : FitsE T2 ⟨ui, ut, uk, ⟨uck, ucs, ucq, ukey, uold, uval, uunt, ulim⟩, ⟨⟨up, un, uc⟩, ⟨uq, um, ud⟩, uf⟩⟩ := f1
  replace f2 : FitsE T2 ⟨vi, vt, vk, ⟨vck, vcs, vcq, vkey, vold, vval, vunt, vlim⟩, ⟨⟨vp, vn, vc⟩, ⟨vq, vm, vd⟩, vf⟩⟩ := f2
  generalize t2.heap.size = q2 at *
  have k3 := m3.out T2 hB2
  go_wp2_with fail
  refine k3.mono ?_
  rintro _ t3 ⟨X, rfl, hX, hb⟩
  subst hX
  have hba : Below t3.heap.size t3 (t3.alloc (.cells #[.int .i64 yt, .int .i64 yv, .int .i64 yc] 37)) := (Below.refl _ _).alloc (Nat.le_refl _) _
  have hbx := hb.trans (hba.mono hb.size)
  have hB3 := hB2.trans (hbx.mono hB2.size)
  have hA3 : HardAt (t3.alloc (.cells #[.int .i64 yt, .int .i64 yv, .int .i64 yc] 37)) t3.heap.size ⟨yt, yv, yc⟩ := heap_alloc_new t3 _
  have hA1' : EntAt _ q1 ⟨ui, ut, uk, ⟨uck, ucs, ucq, ukey, uold, uval, uunt, ulim⟩, ⟨⟨up, un, uc⟩, ⟨uq, um, ud⟩, uf⟩⟩ := box_below hA1 hbx
  clear hA1
  have hA1 := hA1'
  clear hA1'
  have f1' := f1.below hbx
  clear f1
  have f1 := f1'
  clear f1'
  have hA2' : EntAt _ q2 ⟨vi, vt, vk, ⟨vck, vcs, vcq, vkey, vold, vval, vunt, vlim⟩, ⟨⟨vp, vn, vc⟩, ⟨vq, vm, vd⟩, vf⟩⟩ := box_below hA2 hbx
  clear hA2
  have hA2 := hA2'
  clear hA2'
  have f2' := f2.below hbx
  clear f2
  have f2 := f2'
  clear f2'
  clear k3 m3 hba hbx hb hB2
  unfold Hard10.arr at *
  dsimp only at *
  go_upto_region 6 with fail
  generalize t3.alloc (.cells #[.int .i64 yt, .int .i64 yv, .int .i64 yc] 37) = T3 at *
  replace hA3 : HardAt T3 t3.heap.size ⟨yt, yv, yc⟩ := hA3
  replace hA1 : EntAt T3 q1 ⟨ui, ut, uk, ⟨uck, ucs, ucq, ukey, uold, uval, uunt, ulim⟩, ⟨⟨up, un, uc⟩, ⟨uq, um, ud⟩, uf⟩⟩ := hA1
  replace f1 : FitsE T3 ⟨ui, ut, uk, ⟨uck, ucs, ucq, ukey, uold, uval, uunt, ulim⟩, ⟨⟨up, un, uc⟩, ⟨uq, um, ud⟩, uf⟩⟩ := f1
  replace hA2 : EntAt T3 q2 ⟨vi, vt, vk, ⟨vck, vcs, vcq, vkey, vold, vval, vunt, vlim⟩, ⟨⟨vp, vn, vc⟩, ⟨vq, vm, vd⟩, vf⟩⟩ := hA2
  replace f2 : FitsE T3 ⟨vi, vt, vk, ⟨vck, vcs, vcq, vkey, vold, vval, vunt, vlim⟩, ⟨⟨vp, vn, vc⟩, ⟨vq, vm, vd⟩, vf⟩⟩ := f2
  generalize t3.heap.size = q3 at *
  have k4 := m4.out T3 hB3
  go_wp2_with fail
  refine k4.mono ?_
  rintro _ t4 ⟨X, rfl, hX, hb⟩
  subst hX
  have hba : Below t4.heap.size t4 (t4.alloc (.cells #[.int .i64 yt, .int .i64 yv, .int .i64 yc] 37)) := (Below.refl _ _).alloc (Nat.le_refl _) _
  have hbx := hb.trans (hba.mono hb.size)
  have hB4 := hB3.trans (hbx.mono hB3.size)
  have hA4 : HardAt (t4.alloc (.cells #[.int .i64 yt, .int .i64 yv, .int .i64 yc] 37)) t4.heap.size ⟨yt, yv, yc⟩ := heap_alloc_new t4 _
  have hA1' : EntAt _ q1 ⟨ui, ut, uk, ⟨uck, ucs, ucq, ukey, uold, uval, uunt, ulim⟩, ⟨⟨up, un, uc⟩, ⟨uq, um, ud⟩, uf⟩⟩ := box_below hA1 hbx
  clear hA1
  have hA1 := hA1'
  clear hA1'
  have f1' := f1.below hbx
  clear f1
  have f1 := f1'
  clear f1'
  have hA2' : EntAt _ q2 ⟨vi, vt, vk, ⟨vck, vcs, vcq, vkey, vold, vval, vunt, vlim⟩, ⟨⟨vp, vn, vc⟩, ⟨vq, vm, vd⟩, vf⟩⟩ := box_below hA2 hbx
  clear hA2
  have hA2 := hA2'
  clear hA2'
  have f2' := f2.below hbx
  clear f2
  have f2 := f2'
  clear f2'
  have hA3' : HardAt _ q3 ⟨yt, yv, yc⟩ := box_below hA3 hbx
  clear hA3
  have hA3 := hA3'
  clear hA3'
  clear k4 m4 hba hbx hb hB3
  unfold Hard10.arr at *
  dsimp only at *
  go_upto_region 7 with fail
  generalize t4.alloc (.cells #[.int .i64 yt, .int .i64 yv, .int .i64 yc] 37) = T4 at *
  replace hA4 : HardAt T4 t4.heap.size ⟨yt, yv, yc⟩ := hA4
  replace hA1 : EntAt T4 q1 ⟨ui, ut, uk, ⟨uck, ucs, ucq, ukey, uold, uval, uunt, ulim⟩, ⟨⟨up, un, uc⟩, ⟨uq, um, ud⟩, uf⟩⟩ := hA1
  replace f1 : FitsE T4 ⟨ui, ut, uk, ⟨uck, ucs, ucq, ukey, uold, uval, uunt, ulim⟩, ⟨⟨up, un, uc⟩, ⟨uq, um, ud⟩, uf⟩⟩ := f1
  replace hA2 : EntAt T4 q2 ⟨vi, vt, vk, ⟨vck, vcs, vcq, vkey, vold, vval, vunt, vlim⟩, ⟨⟨vp, vn, vc⟩, ⟨vq, vm, vd⟩, vf⟩⟩ := hA2
  replace f2 : FitsE T4 ⟨vi, vt, vk, ⟨vck, vcs, vcq, vkey, vold, vval, vunt, vlim⟩, ⟨⟨vp, vn, vc⟩, ⟨vq, vm, vd⟩, vf⟩⟩ := f2
  replace hA3 : HardAt T4 q3 ⟨yt, yv, yc⟩ := hA3
  generalize t4.heap.size = q4 at *
  have k5 := m5.out T4 hB4
  go_wp2_with fail
  refine k5.mono ?_
  rintro _ t5 ⟨X, rfl, hX, fX, hb⟩
  have HX5 : Hid (X.s = x3) := hX
  have hba : Below t5.heap.size t5 (t5.alloc (.cells X.arr 43)) := (Below.refl _ _).alloc (Nat.le_refl _) _
  have hbx := hb.trans (hba.mono hb.size)
  have hB5 := hB4.trans (hbx.mono hB4.size)
  have hA5 : SnapAt (t5.alloc (.cells X.arr 43)) t5.heap.size X := heap_alloc_new t5 _
  have f5 := fX.below hba
  have hA1' : EntAt _ q1 ⟨ui, ut, uk, ⟨uck, ucs, ucq, ukey, uold, uval, uunt, ulim⟩, ⟨⟨up, un, uc⟩, ⟨uq, um, ud⟩, uf⟩⟩ := box_below hA1 hbx
  clear hA1
  have hA1 := hA1'
  clear hA1'
  have f1' := f1.below hbx
  clear f1
  have f1 := f1'
  clear f1'
  have hA2' : EntAt _ q2 ⟨vi, vt, vk, ⟨vck, vcs, vcq, vkey, vold, vval, vunt, vlim⟩, ⟨⟨vp, vn, vc⟩, ⟨vq, vm, vd⟩, vf⟩⟩ := box_below hA2 hbx
  clear hA2
  have hA2 := hA2'
  clear hA2'
  have f2' := f2.below hbx
  clear f2
  have f2 := f2'
  clear f2'
  have hA3' : HardAt _ q3 ⟨yt, yv, yc⟩ := box_below hA3 hbx
  clear hA3
  have hA3 := hA3'
  clear hA3'
  have hA4' : HardAt _ q4 ⟨yt, yv, yc⟩ := box_below hA4 hbx
  clear hA4
  have hA4 := hA4'
  clear hA4'
  clear k5 m5 hba hbx hb hB4 hX fX
  obtain ⟨ri, rt, ⟨⟨rp, rn, rc⟩, ⟨rq, rm, rd⟩, rf⟩, ⟨ra, rb, re⟩, rdd⟩ := X
  unfold SnapV.arr at *
  dsimp only at *
  go_upto_region 8 with fail
  generalize t5.alloc (.cells #[.int .i64 ri, .int .i64 rt, .slice rp rn rc, .slice rq rm rd, .slice ra rb re] 43) = T5 at *
  replace hA5 : SnapAt T5 t5.heap.size ⟨ri, rt, ⟨⟨rp, rn, rc⟩, ⟨rq, rm, rd⟩, rf⟩, ⟨ra, rb, re⟩, rdd⟩ := hA5
  replace hA1 : EntAt T5 q1 ⟨ui, ut, uk, ⟨uck, ucs, ucq, ukey, uold, uval, uunt, ulim⟩, ⟨⟨up, un, uc⟩, ⟨uq, um, ud⟩, uf⟩⟩ := hA1
  replace f1 : FitsE T5 ⟨ui, ut, uk, ⟨uck, ucs, ucq, ukey, uold, uval, uunt, ulim⟩, ⟨⟨up, un, uc⟩, ⟨uq, um, ud⟩, uf⟩⟩ := f1
  replace hA2 : EntAt T5 q2 ⟨vi, vt, vk, ⟨vck, vcs, vcq, vkey, vold, vval, vunt, vlim⟩, ⟨⟨vp, vn, vc⟩, ⟨vq, vm, vd⟩, vf⟩⟩ := hA2
  replace f2 : FitsE T5 ⟨vi, vt, vk, ⟨vck, vcs, vcq, vkey, vold, vval, vunt, vlim⟩, ⟨⟨vp, vn, vc⟩, ⟨vq, vm, vd⟩, vf⟩⟩ := f2
  replace hA3 : HardAt T5 q3 ⟨yt, yv, yc⟩ := hA3
  replace hA4 : HardAt T5 q4 ⟨yt, yv, yc⟩ := hA4
  replace f5 : FitsS T5 ⟨ri, rt, ⟨⟨rp, rn, rc⟩, ⟨rq, rm, rd⟩, rf⟩, ⟨ra, rb, re⟩, rdd⟩ := f5
  generalize t5.heap.size = q5 at *
  have k6 := m6.out T5 hB5
  go_wp2_with fail
  refine k6.mono ?_
  rintro _ t6 ⟨X, rfl, hX, fX, hb⟩
  have HX6 : Hid (X.s = x3) := hX
  have hba : Below t6.heap.size t6 (t6.alloc (.cells X.arr 43)) := (Below.refl _ _).alloc (Nat.le_refl _) _
  have hbx := hb.trans (hba.mono hb.size)
  have hB6 := hB5.trans (hbx.mono hB5.size)
  have hA6 : SnapAt (t6.alloc (.cells X.arr 43)) t6.heap.size X := heap_alloc_new t6 _
  have f6 := fX.below hba
  have hA1' : EntAt _ q1 ⟨ui, ut, uk, ⟨uck, ucs, ucq, ukey, uold, uval, uunt, ulim⟩, ⟨⟨up, un, uc⟩, ⟨uq, um, ud⟩, uf⟩⟩ := box_below hA1 hbx
  clear hA1
  have hA1 := hA1'
  clear hA1'
  have f1' := f1.below hbx
  clear f1
  have f1 := f1'
  clear f1'
  have hA2' : EntAt _ q2 ⟨vi, vt, vk, ⟨vck, vcs, vcq, vkey, vold, vval, vunt, vlim⟩, ⟨⟨vp, vn, vc⟩, ⟨vq, vm, vd⟩, vf⟩⟩ := box_below hA2 hbx
  clear hA2
  have hA2 := hA2'
  clear hA2'
  have f2' := f2.below hbx
  clear f2
  have f2 := f2'
  clear f2'
  have hA3' : HardAt _ q3 ⟨yt, yv, yc⟩ := box_below hA3 hbx
  clear hA3
  have hA3 := hA3'
  clear hA3'
  have hA4' : HardAt _ q4 ⟨yt, yv, yc⟩ := box_below hA4 hbx
  clear hA4
  have hA4 := hA4'
  clear hA4'
  have hA5' : SnapAt _ q5 ⟨ri, rt, ⟨⟨rp, rn, rc⟩, ⟨rq, rm, rd⟩, rf⟩, ⟨ra, rb, re⟩, rdd⟩ := box_below hA5 hbx
  clear hA5
  have hA5 := hA5'
  clear hA5'
  have f5' := f5.below hbx
  clear f5
  have f5 := f5'
  clear f5'
  clear k6 m6 hba hbx hb hB5 hX fX
  obtain ⟨si, st, ⟨⟨sp, sn, sc⟩, ⟨sq, sm, sd⟩, sf⟩, ⟨sa, sb, se⟩, sdd⟩ := X
  unfold SnapV.arr at *
  dsimp only at *
  go_upto_region 9 with fail
  generalize t6.alloc (.cells #[.int .i64 si, .int .i64 st, .slice sp sn sc, .slice sq sm sd, .slice sa sb se] 43) = T6 at *
  replace hA6 : SnapAt T6 t6.heap.size ⟨si, st, ⟨⟨sp, sn, sc⟩, ⟨sq, sm, sd⟩, sf⟩, ⟨sa, sb, se⟩, sdd⟩ := hA6
  replace hA1 : EntAt T6 q1 ⟨ui, ut, uk, ⟨uck, ucs, ucq, ukey, uold, uval, uunt, ulim⟩, ⟨⟨up, un, uc⟩, ⟨uq, um, ud⟩, uf⟩⟩ := hA1
  replace f1 : FitsE T6 ⟨ui, ut, uk, ⟨uck, ucs, ucq, ukey, uold, uval, uunt, ulim⟩, ⟨⟨up, un, uc⟩, ⟨uq, um, ud⟩, uf⟩⟩ := f1
  replace hA2 : EntAt T6 q2 ⟨vi, vt, vk, ⟨vck, vcs, vcq, vkey, vold, vval, vunt, vlim⟩, ⟨⟨vp, vn, vc⟩, ⟨vq, vm, vd⟩, vf⟩⟩ := hA2
  replace f2 : FitsE T6 ⟨vi, vt, vk, ⟨vck, vcs, vcq, vkey, vold, vval, vunt, vlim⟩, ⟨⟨vp, vn, vc⟩, ⟨vq, vm, vd⟩, vf⟩⟩ := f2
  replace hA3 : HardAt T6 q3 ⟨yt, yv, yc⟩ := hA3
  replace hA4 : HardAt T6 q4 ⟨yt, yv, yc⟩ := hA4
  replace hA5 : SnapAt T6 q5 ⟨ri, rt, ⟨⟨rp, rn, rc⟩, ⟨rq, rm, rd⟩, rf⟩, ⟨ra, rb, re⟩, rdd⟩ := hA5
  replace f5 : FitsS T6 ⟨ri, rt, ⟨⟨rp, rn, rc⟩, ⟨rq, rm, rd⟩, rf⟩, ⟨ra, rb, re⟩, rdd⟩ := f5
  replace f6 : FitsS T6 ⟨si, st, ⟨⟨sp, sn, sc⟩, ⟨sq, sm, sd⟩, sf⟩, ⟨sa, sb, se⟩, sdd⟩ := f6
  generalize t6.heap.size = q6 at *
  have HS1 : Hid (sameE10 (EntV.e ⟨ui, ut, uk, ⟨uck, ucs, ucq, ukey, uold, uval, uunt, ulim⟩, ⟨⟨up, un, uc⟩, ⟨uq, um, ud⟩, uf⟩⟩) (EntV.e ⟨vi, vt, vk, ⟨vck, vcs, vcq, vkey, vold, vval, vunt, vlim⟩, ⟨⟨vp, vn, vc⟩, ⟨vq, vm, vd⟩, vf⟩⟩) = true) := by rw [Hid, HX1.out, HX2.out]; exact (sameE10_iff _ _).2 rfl
  have HS5 : Hid (sameS10 (SnapV.s ⟨ri, rt, ⟨⟨rp, rn, rc⟩, ⟨rq, rm, rd⟩, rf⟩, ⟨ra, rb, re⟩, rdd⟩) (SnapV.s ⟨si, st, ⟨⟨sp, sn, sc⟩, ⟨sq, sm, sd⟩, sf⟩, ⟨sa, sb, se⟩, sdd⟩) = true) := by rw [Hid, HX5.out, HX6.out]; exact (sameS10_iff _ _).2 rfl
  have ks := rsameE_any ⟨ui, ut, uk, ⟨uck, ucs, ucq, ukey, uold, uval, uunt, ulim⟩, ⟨⟨up, un, uc⟩, ⟨uq, um, ud⟩, uf⟩⟩ ⟨vi, vt, vk, ⟨vck, vcs, vcq, vkey, vold, vval, vunt, vlim⟩, ⟨⟨vp, vn, vc⟩, ⟨vq, vm, vd⟩, vf⟩⟩ T6 f1.f f2.f
  rw [HS1.out] at ks
  have kz : Hid (∀ W, Below T6.heap.size T6 W → Calls Tryz.prog 13 #[.agg (SnapV.arr ⟨ri, rt, ⟨⟨rp, rn, rc⟩, ⟨rq, rm, rd⟩, rf⟩, ⟨ra, rb, re⟩, rdd⟩), .agg (SnapV.arr ⟨si, st, ⟨⟨sp, sn, sc⟩, ⟨sq, sm, sd⟩, sf⟩, ⟨sa, sb, se⟩, sdd⟩)] W fun e w' => e = .returned (.bool true) ∧ Below W.heap.size W w') := fun W h => by
    have := rsameSnap_any ⟨ri, rt, ⟨⟨rp, rn, rc⟩, ⟨rq, rm, rd⟩, rf⟩, ⟨ra, rb, re⟩, rdd⟩ ⟨si, st, ⟨⟨sp, sn, sc⟩, ⟨sq, sm, sd⟩, sf⟩, ⟨sa, sb, se⟩, sdd⟩ W (f5.below h) (f6.below h)
    rwa [HS5.out] at this
  unfold EntV.arr at ks
  unfold SnapV.arr at kz
  dsimp only at ks kz
  clear HX1 HX2 HX5 HX6 HS1 HS5 f1 f2 f5 f6
  obtain ⟨c0, c1, c2, c3, c4, c5, c6, c7, c8, c9, c10, c11, c12⟩ := hA1.cells
  obtain ⟨d0, d1, d2, d3, d4, d5, d6, d7, d8, d9, d10, d11, d12⟩ := hA2.cells
  dsimp only at c0 d0 c1 d1 c2 d2 c3 d3 c4 d4 c5 d5 c6 d6 c7 d7 c8 d8 c9 d9 c10 d10 c11 d11 c12 d12
  have hl1 := box_lt hA1
  have hl2 := box_lt hA2
  go_wp2_with fail
  refine ks.mono ?_
  rintro _ y1 ⟨rfl, hb1⟩
  clear ks c0 d0 c1 d1 c2 d2 c3 d3 c4 d4 c5 d5 c6 d6 c7 d7 c8 d8 c9 d9 c10 d10 c11 d11 c12 d12 hl1 hl2
  have a3 : HardAt y1 q3 ⟨yt, yv, yc⟩ := box_below hA3 hb1
  have a4 : HardAt y1 q4 ⟨yt, yv, yc⟩ := box_below hA4 hb1
  have a5 : SnapAt y1 q5 ⟨ri, rt, ⟨⟨rp, rn, rc⟩, ⟨rq, rm, rd⟩, rf⟩, ⟨ra, rb, re⟩, rdd⟩ := box_below hA5 hb1
  have a6 : SnapAt y1 q6 ⟨si, st, ⟨⟨sp, sn, sc⟩, ⟨sq, sm, sd⟩, sf⟩, ⟨sa, sb, se⟩, sdd⟩ := box_below hA6 hb1
  have hB7 := hB6.trans (hb1.mono hB6.size)
  obtain ⟨c0, c1, c2⟩ := a3.cells
  obtain ⟨d0, d1, d2⟩ := a4.cells
  obtain ⟨e0', e1, e2, e3, e4⟩ := a5.cells
  obtain ⟨g0, g1, g2, g3, g4⟩ := a6.cells
  dsimp only at c0 c1 c2 d0 d1 d2 e0' e1 e2 e3 e4 g0 g1 g2 g3 g4
  have l3 := box_lt a3
  have l4 := box_lt a4
  have l5 := box_lt a5
  have l6 := box_lt a6
  have k7 := kz.out y1 hb1
  clear hA1 hA2 hA3 hA4 hA5 hA6
  go_wp2_with fail
  refine k7.mono ?_
  rintro _ y2 ⟨rfl, hb2⟩
  have hB8 := hB7.trans (hb2.mono hB7.size)
  go_wp2_with fail
  refine (k9 _).mono ?_
  rintro _ y3 ⟨rfl, hb3⟩
  have hB9 := hB8.trans (hb3.mono hB8.size)
  go_wp2
  go_ret
  exact ⟨rfl, hB9⟩
end Go.Proofs.YtnbaoimjcaeeaaaGreat
