import Derived.Test.YtnbaoimjcaeeaaaEo6To
import Derived.Test.YtnbaoimjcaeeaaaEn7To
import Derived.Test.YtnbaoimjcaeeaaaEr3To
/-
  Contracts: corbelref10.SameSnap; '==' of what must not be forgotten; the walk of EntryBack.
-/
namespace Go.Proofs.Ytnbaoimjcaeeaaa
open Go.RowKit Go.Shelf

def sameH10 (a b : Hard10) : Bool := decide (a.t = b.t) && decide (a.v = b.v) && decide (a.c = b.c)
theorem sameH10_self (a : Hard10) : sameH10 a a = true := by simp [sameH10]

set_option maxRecDepth 100000 in
set_option maxHeartbeats 1500000 in
theorem eqlH (t v c t' v' c' : Int) (W : World) : Sem.run Try.prog (binOp .eql 41 (.agg #[.int .i64 t, .int .i64 v, .int .i64 c]) (.agg #[.int .i64 t', .int .i64 v', .int .i64 c'])) W = .ok (.bool (sameH10 ⟨t, v, c⟩ ⟨t', v', c'⟩)) W := by
  have u3 := Try.underlying3
  have a3 := Try.isAgg3
  have z3 := Try.sizeOf3
  have hS : Try.prog.underlying 41 = some (.struct (Try.prog.fieldsOf 41)) := by kernel_rfl
  have hp : Try.prog.stoodInHeld 41 = false := by kernel_rfl
  rw [run_eql_struct, show (10000 : Nat) = 9999 + 1 from rfl, run_equalIn_agg W 9999 41 _ _ hS hp]
  simp only [Program.fieldsOf, Try.underlying41]
  go_simp
  unfold sameH10
  by_cases h1 : t = t'
  case neg => simp [h1]
  by_cases h2 : v = v'
  case neg => simp [h1, h2]
  by_cases h3 : c = c'
  case neg => simp [h1, h2, h3]
  simp [h1, h2, h3]

theorem neqH (t v c t' v' c' : Int) (W : World) : Sem.run Try.prog (binOp .neq 41 (.agg #[.int .i64 t, .int .i64 v, .int .i64 c]) (.agg #[.int .i64 t', .int .i64 v', .int .i64 c'])) W = .ok (.bool (!sameH10 ⟨t, v, c⟩ ⟨t', v', c'⟩)) W := by
  have h := eqlH t v c t' v' c' W
  rw [run_eql_struct] at h
  rw [run_neq_struct]
  generalize Sem.run Try.prog (Op.equalIn 10000 41 _ _) W = r at h ⊢
  cases r with
  | ok b w' =>
    simp only [Result.andThen, Result.ok.injEq, Value.bool.injEq] at h ⊢
    obtain ⟨h1, h2⟩ := h
    exact ⟨by rw [h1], h2⟩
  | _ => cases h

theorem grdH (op : BinOp) (o1 o2 : Operand) (x y : Array Value) (W : World) : Sem.run Try.prog (eqGuard op 41 o1 o2 (.agg x) (.agg y)) W = .ok () W :=
  run_eqGuard_agg W op 41 o1 o2 x y (by kernel_rfl)


set_option maxRecDepth 100000 in
set_option maxHeartbeats 2000000 in
theorem rsameSnap_any (x y : SnapV) (w : World) (hx : FitsS w x) (hy : FitsS w y) : Calls Try.prog 30 #[.agg x.arr, .agg y.arr] w fun e w' => e = .returned (.bool (sameS10 x.s y.s)) ∧ Below w.heap.size w w' := by
  have hb1 : Below w.heap.size w (w.alloc (.cells x.arr 39)) := (Below.refl _ _).alloc (Nat.le_refl _) _
  have hz1 : (w.alloc (.cells x.arr 39)).heap.size = w.heap.size + 1 := by simp
  have hb2 := (Below.refl _ (w.alloc (.cells x.arr 39))).alloc (Nat.le_refl _) (.cells y.arr 39)
  have hbx : SnapAt (w.alloc (.cells x.arr 39)) w.heap.size x := heap_alloc_new w _
  have hby : SnapAt ((w.alloc (.cells x.arr 39)).alloc (.cells y.arr 39)) (w.heap.size + 1) y := by rw [← hz1]; exact heap_alloc_new _ _
  have hbx2 : SnapAt _ w.heap.size x := box_below hbx hb2
  have hB := hb1.trans (hb2.mono hb1.size)
  have hbz := hB.size
  have hx2 := (hx.below hb1).below hb2
  have hy2 := (hy.below hb1).below hb2
  have ks := rsameConf_any x.f y.f _ hx2.f hy2.f
  have kd : Hid (∀ W, Below w.heap.size w W → Calls Try.prog 13 #[.slice x.w.p x.w.n x.w.c, .slice y.w.p y.w.n y.w.c] W fun e w' => e = .returned (.bool (decide (x.d = y.d))) ∧ w' = W) := fun W h => by have := same_any (.slice x.w.p x.w.n x.w.c) (.slice y.w.p y.w.n y.w.c) x.d y.d W (hx.w.below h (Nat.le_refl _)) (hy.w.below h (Nat.le_refl _)) hx.b hy.b; rwa [show (x.d == y.d) = decide (x.d = y.d) by rw [Bool.eq_iff_iff]; simp] at this
  have HS : Hid (sameS10 x.s y.s = (decide (x.i = y.i) && decide (x.t = y.t) && sameF10 x.f.f y.f.f && decide (x.d = y.d))) := rfl
  generalize sameF10 x.f.f y.f.f = rf at *
  generalize decide (x.d = y.d) = rd at *
  generalize hr : sameS10 x.s y.s = r at *
  clear hr hx hy hb1 hb2 hx2 hy2 hbx hz1
  obtain ⟨i, t, ⟨⟨p, n, c⟩, ⟨q, m, d⟩, f⟩, ⟨a, b, e⟩, dd⟩ := x
  obtain ⟨i', t', ⟨⟨p', n', c'⟩, ⟨q', m', d'⟩, f'⟩, ⟨a', b', e'⟩, dd'⟩ := y
  unfold SnapV.arr at *
  unfold ConfV.arr at *
  dsimp only at *
  by_cases h1 : i = i'
  case neg =>
    have HF : Hid (r = false) := by rw [Hid, HS.out, decide_eq_false h1]; simp
    have e9 : (i == i') = false := by simpa using h1
    clear HS ks kd
    go_enter Try.func30, Try.ntmps30
    go_wp2
    go_ret
    rw [HF.out]
    exact ⟨rfl, hB⟩
  subst h1
  by_cases h2 : t = t'
  case neg =>
    have HF : Hid (r = false) := by rw [Hid, HS.out, decide_eq_false h2]; simp
    have e9 : (t == t') = false := by simpa using h2
    clear HS ks kd
    go_enter Try.func30, Try.ntmps30
    go_wp2
    go_ret
    rw [HF.out]
    exact ⟨rfl, hB⟩
  subst h2
  have HF : Hid (r = (rf && rd)) := by rw [Hid, HS.out, decide_eq_true rfl, decide_eq_true rfl]; rfl
  clear HS
  cases rf with
  | false =>
    go_enter Try.func30, Try.ntmps30
    go_wp2_with fail
    refine ks.mono ?_
    rintro _ w3 ⟨rfl, hb3⟩
    have hb9 := hB.trans (hb3.mono hbz)
    go_wp2
    go_ret
    rw [HF.out]
    exact ⟨rfl, hb9⟩
  | true =>
    go_enter Try.func30, Try.ntmps30
    go_wp2_with fail
    generalize (w.alloc (.cells #[.int .i64 i, .int .i64 t, .slice p n c, .slice q m d, .slice a b e] 39)).alloc (.cells #[.int .i64 i, .int .i64 t, .slice p' n' c', .slice q' m' d', .slice a' b' e'] 39) = W2 at *
    refine ks.mono ?_
    rintro _ w3 ⟨rfl, hb3⟩
    have hb9 := hB.trans (hb3.mono hbz)
    have k4 := kd.out w3 hb9
    have e1 : SnapAt w3 w.heap.size ⟨i, t, ⟨⟨p, n, c⟩, ⟨q, m, d⟩, f⟩, ⟨a, b, e⟩, dd⟩ := box_below hbx2 hb3
    have e2 : SnapAt w3 (w.heap.size + 1) ⟨i, t, ⟨⟨p', n', c'⟩, ⟨q', m', d'⟩, f'⟩, ⟨a', b', e'⟩, dd'⟩ := box_below hby hb3
    obtain ⟨c0, c1, c2, c3, c4⟩ := e1.cells
    obtain ⟨d0, d1, d2, d3, d4⟩ := e2.cells
    dsimp only at c0 c1 c2 c3 c4 d0 d1 d2 d3 d4
    have hl1 := box_lt e1
    have hl2 := box_lt e2
    clear ks hbx2 hby
    go_wp2_with fail
    refine same_mono k4 ?_
    go_wp2
    go_ret
    rw [HF.out]
    exact ⟨by simp, hb9⟩

theorem backE (e : Ent10) (h : ShortE10 1152921504606846976 e) (hg : goodE10 e = true) : whole10 goodE10 noE10 (pent10 (entB e, false)) = (e, 0) := by
  rw [(ent10_sim 1152921504606846976 (by decide)).whole noE10 (entB e, false)]
  have := ent10_back 1152921504606846976 e [] h (by decide) hg
  rw [List.append_nil] at this
  rw [this]
  unfold whole10
  rw [hg]
  rfl
theorem whole_good {α : Type} (g : α → Bool) (n : α) (r : α × St) : (whole10 g n r).2 = 0 ∧ g (whole10 g n r).1 = true ∨ whole10 g n r = (n, 8) := by
  unfold whole10
  split
  · rename_i h
    rw [Bool.and_eq_true] at h
    exact .inl ⟨rfl, h.2⟩
  · exact .inr rfl
theorem backH (h : Hard10) (hf : FitsH h) : whole10 goodH10 noH10 (hard10 (hardB h, false)) = if goodH10 h then (h, 0) else (noH10, 8) := by
  have := hard10_back h [] hf.1 hf.2.1 hf.2.2
  rw [List.append_nil] at this
  rw [this]
  unfold whole10
  simp
theorem backS (s : Snap10) (h : ShortS10 1152921504606846976 s) : whole10 goodS10 noS10 (snap10 9 (snapB s, false)) = if goodS10 s then (s, 0) else (noS10, 8) := by
  rw [(snap10_sim 1152921504606846976 (by decide)).whole noS10 (snapB s, false)]
  have := snap10_back 1152921504606846976 s [] h (by decide)
  rw [List.append_nil] at this
  rw [this]
  unfold whole10
  simp
theorem snapB_len {s : Snap10} (h : FewF s.f) (hd : s.d.length ≤ 1000000) : (snapB s).length ≤ 1100000 := by
  unfold snapB
  have h1 := zigB_le s.i
  have h2 := zigB_le s.t
  have h3 := confB_len h
  have h4 := bytB_len s.d
  simp only [List.length_append]
  omega
theorem hardB_len (h : Hard10) : (hardB h).length ≤ 27 := by
  unfold hardB
  have h1 := zigB_le h.t
  have h2 := zigB_le h.v
  have h3 := zigB_le h.c
  simp only [List.length_append]
  omega

/-- Three boxes, and old memory as it was. -/
def Box3 (w0 w : World) (a b c : Nat) (x : EntV) (y : Hard10) (z : SnapV) : Prop := EntAt w a x ∧ HardAt w b y ∧ SnapAt w c z ∧ Below w0.heap.size w0 w
theorem Box3.below {w0 w w' : World} {a b c : Nat} {x : EntV} {y : Hard10} {z : SnapV} (h : Box3 w0 w a b c x y z) (hb : Below w.heap.size w w') : Box3 w0 w' a b c x y z := ⟨box_below h.1 hb, box_below h.2.1 hb, box_below h.2.2.1 hb, h.2.2.2.trans (hb.mono h.2.2.2.size)⟩
theorem Box3.new (w : World) (x : EntV) (y : Hard10) (z : SnapV) : Box3 w (((w.alloc (.cells x.arr 28)).alloc (.cells y.arr 41)).alloc (.cells z.arr 39)) w.heap.size (w.heap.size + 1) (w.heap.size + 1 + 1) x y z := by
  have hb1 : Below w.heap.size w (w.alloc (.cells x.arr 28)) := (Below.refl _ _).alloc (Nat.le_refl _) _
  have hbx : EntAt (w.alloc (.cells x.arr 28)) w.heap.size x := heap_alloc_new w _
  have hz1 : (w.alloc (.cells x.arr 28)).heap.size = w.heap.size + 1 := by simp
  generalize w.alloc (.cells x.arr 28) = w1 at *
  have hb2 : Below w1.heap.size w1 (w1.alloc (.cells y.arr 41)) := (Below.refl _ _).alloc (Nat.le_refl _) _
  have hby : HardAt (w1.alloc (.cells y.arr 41)) w1.heap.size y := heap_alloc_new w1 _
  have hz2 : (w1.alloc (.cells y.arr 41)).heap.size = w1.heap.size + 1 := by simp
  generalize w1.alloc (.cells y.arr 41) = w2 at *
  have hb3 : Below w2.heap.size w2 (w2.alloc (.cells z.arr 39)) := (Below.refl _ _).alloc (Nat.le_refl _) _
  have hbz : SnapAt (w2.alloc (.cells z.arr 39)) w2.heap.size z := heap_alloc_new w2 _
  rw [hz2, hz1] at hbz
  rw [hz1] at hby
  exact ⟨box_below (box_below hbx hb2) hb3, box_below hby hb3, hbz, (hb1.trans (hb2.mono hb1.size)).trans (hb3.mono (by omega))⟩
end Go.Proofs.Ytnbaoimjcaeeaaa

/-
  The walk of EntryBack.
-/
namespace Go.Proofs.Ytnbaoimjcaeeaaa
open Go.RowKit Go.Shelf

theorem hardH_neg {h : Hard10} (hg : goodH10 h = false) : h.t < 0 ∨ (0 ≤ h.t ∧ h.v < 0) ∨ (0 ≤ h.t ∧ 0 ≤ h.v ∧ h.c < 0) := by
  unfold goodH10 at hg
  simp only [Bool.and_eq_false_iff, decide_eq_false_iff_not] at hg
  omega
theorem hardH_pos {h : Hard10} (hg : goodH10 h = true) : 0 ≤ h.t ∧ 0 ≤ h.v ∧ 0 ≤ h.c := by
  unfold goodH10 at hg
  simp only [Bool.and_eq_true, decide_eq_true_eq] at hg
  omega

set_option maxRecDepth 100000 in
set_option maxHeartbeats 8000000 in
theorem back10_walk (x : EntV) (y : Hard10) (z : SnapV) (w : World) (hx : FitsE w x) (hy : FitsH y) (hz : FitsS w z) : Calls Try.prog 5 #[.agg x.arr, .agg y.arr, .agg z.arr] w fun e w' => e = .returned (.bool true) ∧ Below w.heap.size w w' := by
  have k9 := fun w => lives10_any w
  have hT0 := Box3.new w x y z
  have kw := weight_any x _ (hx.below hT0.2.2.2)
  by_cases h1 : 400 < weightE x.e
  · generalize weightE x.e = wx at *
    have h1' : (400 : Int) < (wx : Int) := by omega
    clear hx hy hz
    obtain ⟨i, t, k, ⟨ck, cs, cq, ckey, cold, cval, cunt, clim⟩, ⟨⟨p, n, c⟩, ⟨q, m, d⟩, f⟩⟩ := x
    obtain ⟨ht, hv, hc⟩ := y
    obtain ⟨si, st, ⟨⟨p1, n1, c1⟩, ⟨q1, u1, d1⟩, f1⟩, ⟨a, b0, e0⟩, dd⟩ := z
    unfold EntV.arr Hard10.arr SnapV.arr at *
    dsimp only at *
    go_enter Try.func5, Try.ntmps5
    go_wp2_with fail
    refine kw.mono ?_
    rintro _ w2 ⟨rfl, hb2⟩
    have hT2 := hT0.below hb2
    go_wp2_with fail
    refine (k9 _).mono ?_
    rintro _ w3 ⟨rfl, hb3⟩
    have hT3 := hT2.below hb3
    go_wp2
    go_ret
    exact ⟨rfl, hT3.2.2.2⟩
  have few1 := weight_few (n := weightE x.e) (Nat.le_refl _) (by omega)
  have fx : ∀ W, Below w.heap.size w W → FitsE W x := fun W h => hx.below h
  have fz : ∀ W, Below w.heap.size w W → FitsS W z := fun W h => hz.below h
  have kfew : Hid (∀ W, Below w.heap.size w W → Calls Try.prog 20 #[.agg (onlyS z).arr] W fun e w' => ∃ r : Bool, e = .returned (.bool r) ∧ (r = true → FewM (onlyS z)) ∧ Below W.heap.size W w') := fun W h => few10_any (onlyS z) W (onlyS_fits (fz W h))
  have HFw : Hid (FewM (onlyS z) → FewF z.f.f ∧ z.d.length ≤ 1000000) := fun h => ⟨⟨Nat.le_trans h.vs (by omega), Nat.le_trans h.ls (by omega)⟩, Nat.le_trans h.d (by omega)⟩
  have m1 : Hid (∀ W, Below w.heap.size w W → Calls Try.prog 14 #[.agg x.arr] W fun e w' => ∃ v, e = .returned v ∧ Owns w' W.heap.size 5 v (entB x.e) ∧ Below W.heap.size W w') := fun W h => bytesE_any W x (fx W h).f few1.1 few1.2
  have m2 : Hid (∀ W v, Has W v (entB x.e) → Calls Try.prog 27 #[v] W fun e w' => ∃ X : EntV, e = .returned (.tuple #[.agg X.arr, .int .i64 (whole10 goodE10 noE10 (pent10 (entB x.e, false))).2]) ∧ X.e = (whole10 goodE10 noE10 (pent10 (entB x.e, false))).1 ∧ FitsE w' X ∧ Below W.heap.size W w') := fun W v hv => readE_any v _ W hv (entB_isB _) (Nat.le_trans (entB_len few1.2 few1.1) (by decide))
  have hsh : ShortE10 1152921504606846976 x.e := ⟨hx.i, hx.t, hx.k, ⟨by have := hx.c.1; exact Nat.lt_of_le_of_lt this (by decide), by have := hx.c.2.1; exact Nat.lt_of_le_of_lt this (by decide), by have := hx.c.2.2.1; exact Nat.lt_of_le_of_lt this (by decide), by have := hx.c.2.2.2.1; exact Nat.lt_of_le_of_lt this (by decide), hx.c.2.2.2.2.1, hx.c.2.2.2.2.2.1, hx.c.2.2.2.2.2.2.1, hx.c.2.2.2.2.2.2.2⟩, hx.f.iu, hx.f.iv, by have := few1.1.1; show ((x.f.f.vs.length : Nat) : Int) ≤ _; have : x.f.f.vs.length ≤ 1000 := few1.1.1; omega, by show ((x.f.f.ls.length : Nat) : Int) ≤ _; have : x.f.f.ls.length ≤ 1000 := few1.1.2; omega, Nat.lt_of_le_of_lt (cmdB_few few1.2) (by decide)⟩
  have HE : Hid (((whole10 goodE10 noE10 (pent10 (entB x.e, false))).2 = 0 ∧ goodE10 (whole10 goodE10 noE10 (pent10 (entB x.e, false))).1 = true ∧ (goodE10 x.e = true → sameE10 (whole10 goodE10 noE10 (pent10 (entB x.e, false))).1 x.e = true)) ∨ ((whole10 goodE10 noE10 (pent10 (entB x.e, false))).2 = 8 ∧ goodE10 x.e = false)) := by
    show _ ∨ _
    cases hg : goodE10 x.e with
    | true =>
      left
      rw [backE x.e hsh hg]
      exact ⟨rfl, hg, fun _ => (sameE10_iff _ _).2 rfl⟩
    | false =>
      rcases whole_good goodE10 noE10 (pent10 (entB x.e, false)) with h | h
      · exact .inl ⟨h.1, h.2, fun h => by cases h⟩
      · exact .inr ⟨by rw [h], rfl⟩
  obtain ⟨R2, HR2⟩ : ∃ R2 : Hard10 × Int, Hid (R2 = if goodH10 y then (y, 0) else (noH10, 8)) := ⟨_, rfl⟩
  obtain ⟨R3, HR3⟩ : ∃ R3 : Snap10 × Int, Hid (R3 = if goodS10 z.s then (z.s, 0) else (noS10, 8)) := ⟨_, rfl⟩
  have m3 : Hid (∀ W, Calls Try.prog 25 #[.agg y.arr] W fun e w' => ∃ v, e = .returned v ∧ Owns w' W.heap.size 5 v (hardB y) ∧ Below W.heap.size W w') := fun W => bytesH_any W y
  have m4 : Hid (∀ W v, Has W v (hardB y) → Calls Try.prog 28 #[v] W fun e w' => ∃ X : Hard10, e = .returned (.tuple #[.agg X.arr, .int .i64 R2.2]) ∧ X = R2.1 ∧ Below W.heap.size W w') := fun W v hv => by
    have := readH_any v _ W hv (hardB_isB _) (Nat.le_trans (hardB_len y) (by decide))
    rw [backH y hy, ← HR2.out] at this
    exact this.mono fun e w' ⟨X, h1, h2, _, h3⟩ => ⟨X, h1, h2, h3⟩
  have hss : FewF z.f.f → ShortS10 1152921504606846976 z.s := fun hf => ⟨hz.i, hz.t, hz.f.iu, hz.f.iv, by show ((z.f.f.vs.length : Nat) : Int) ≤ _; have : z.f.f.vs.length ≤ 1000 := hf.1; omega, by show ((z.f.f.ls.length : Nat) : Int) ≤ _; have : z.f.f.ls.length ≤ 1000 := hf.2; omega, Nat.lt_of_le_of_lt hz.l (by decide)⟩
  have m5 : Hid (FewF z.f.f ∧ z.d.length ≤ 1000000 → ∀ W, Below w.heap.size w W → Calls Try.prog 23 #[.agg z.arr] W fun e w' => ∃ v, e = .returned v ∧ Owns w' W.heap.size 5 v (snapB z.s) ∧ Below W.heap.size W w') := fun hf W h => bytesS_any W z (fz W h) hf.1 hf.2
  have m6 : Hid (FewF z.f.f ∧ z.d.length ≤ 1000000 → ∀ W v, Has W v (snapB z.s) → Calls Try.prog 29 #[v] W fun e w' => ∃ X : SnapV, e = .returned (.tuple #[.agg X.arr, .int .i64 R3.2]) ∧ X.s = R3.1 ∧ FitsS w' X ∧ Below W.heap.size W w') := fun hf W v hv => by
    have := readS_any v _ W hv (snapB_isB _ hz.b) (Nat.le_trans (snapB_len (s := z.s) hf.1 hf.2) (by decide))
    rwa [backS z.s (hss hf.1), ← HR3.out] at this
  have m7 : Hid (∀ W (X : EntV), FitsE W X → Calls Try.prog 9 #[.agg X.arr] W fun e w' => e = .returned (.bool (goodE10 X.e)) ∧ Below W.heap.size W w') := fun W X h => goodE_any X W h
  have m7x : Hid (∀ W, Below w.heap.size w W → Calls Try.prog 9 #[.agg x.arr] W fun e w' => e = .returned (.bool (goodE10 x.e)) ∧ Below W.heap.size W w') := fun W h => goodE_any x W (fx W h)
  have m8 : Hid (∀ W (X : EntV), FitsE W X → Below w.heap.size w W → Calls Try.prog 16 #[.agg X.arr, .agg x.arr] W fun e w' => e = .returned (.bool (sameE10 X.e x.e)) ∧ Below W.heap.size W w') := fun W X h hb => sameE_any X x W h.f (fx W hb).f
  have m9 : Hid (∀ W, Below w.heap.size w W → Calls Try.prog 21 #[.agg z.arr] W fun e w' => e = .returned (.bool (goodS10 z.s)) ∧ Below W.heap.size W w') := fun W h => goodSnap_any z W (fz W h)
  have m10 : Hid (∀ W (X : SnapV), FitsS W X → X.s = z.s → Below w.heap.size w W → Calls Try.prog 30 #[.agg X.arr, .agg z.arr] W fun e w' => e = .returned (.bool true) ∧ Below W.heap.size W w') := fun W X h hX hb => by
    have := rsameSnap_any X z W h (fz W hb)
    rwa [hX, (sameS10_iff _ _).2 rfl] at this
  have HHn : Hid (goodH10 y = false → y.t < 0 ∨ (0 ≤ y.t ∧ y.v < 0) ∨ (0 ≤ y.t ∧ 0 ≤ y.v ∧ y.c < 0)) := hardH_neg
  have HHp : Hid (goodH10 y = true → 0 ≤ y.t ∧ 0 ≤ y.v ∧ 0 ≤ y.c) := hardH_pos
  have HH : Hid ((goodH10 y = true ∧ R2.2 = 0 ∧ R2.1 = y) ∨ (goodH10 y = false ∧ R2.2 = 8)) := by
    show _ ∨ _
    rw [HR2.out]
    cases goodH10 y with
    | true => exact .inl ⟨rfl, rfl, rfl⟩
    | false => exact .inr ⟨rfl, rfl⟩
  have HSn : Hid ((goodS10 z.s = true ∧ R3.2 = 0 ∧ R3.1 = z.s) ∨ (goodS10 z.s = false ∧ R3.2 = 8)) := by
    show _ ∨ _
    rw [HR3.out]
    cases goodS10 z.s with
    | true => exact .inl ⟨rfl, rfl, rfl⟩
    | false => exact .inr ⟨rfl, rfl⟩
  clear HR2 HR3
  have hne := fun W => neqH y.t y.v y.c y.t y.v y.c W
  rw [show sameH10 ⟨y.t, y.v, y.c⟩ ⟨y.t, y.v, y.c⟩ = true from sameH10_self _] at hne
  have hgr := grdH
  clear hx hy hz fx fz hsh hss few1
  generalize whole10 goodE10 noE10 (pent10 (entB x.e, false)) = R1 at *
  obtain ⟨x1, E1⟩ := R1
  obtain ⟨x2, E2⟩ := R2
  obtain ⟨x3, E3⟩ := R3
  generalize entB x.e = bx1 at *
  generalize hardB y = bx2 at *
  generalize snapB z.s = bx3 at *
  generalize hgx : goodE10 x.e = gx at *
  generalize hgy : goodH10 y = gy at *
  generalize hgz : goodS10 z.s = gz at *
  generalize (FewF z.f.f ∧ z.d.length ≤ 1000000) = FP at *
  generalize FewM (onlyS z) = FM at *
  generalize hwx : weightE x.e = wx at *
  have h1' : ¬ (400 : Int) < (wx : Int) := by omega
  clear hgx hgy hgz hwx h1
  unfold onlyS at kfew
  unfold MsgV.arr nilS10 at kfew
  have HzS : Hid (z.s = z.s) := rfl
  obtain ⟨i, t, k, ⟨ck, cs, cq, ckey, cold, cval, cunt, clim⟩, ⟨⟨p, n, c⟩, ⟨q, m, d⟩, f⟩⟩ := x
  obtain ⟨ht, hv, hc⟩ := y
  obtain ⟨si, st, ⟨⟨p1, n1, c1⟩, ⟨q1, u1, d1⟩, f1⟩, ⟨a, b0, e0⟩, dd⟩ := z
  unfold EntV.arr Hard10.arr SnapV.arr at *
  dsimp only at *
  go_enter Try.func5, Try.ntmps5
  go_wp2_with fail
  refine kw.mono ?_
  rintro _ w1 ⟨rfl, hb1⟩
  have hT1 := hT0.below hb1
  obtain ⟨g0, g1, g2, g3, g4⟩ := hT1.2.2.1.cells
  dsimp only at g0 g1 g2 g3 g4
  have hl1 := box_lt hT1.2.2.1
  have kfw := kfew.out _ hT1.2.2.2
  clear kw hT0 hb1
  generalize hA1 : w.heap.size + 1 + 1 = bs at *
  generalize hA2 : w.heap.size + 1 = bh at *
  clear hA1 hA2
  go_wp2_with fail
  refine kfw.mono ?_
  rintro _ w2 ⟨r, rfl, hr, hb2⟩
  have hT2 := hT1.below hb2
  have HR : Hid (r = true → FM) := hr
  clear g0 g1 g2 g3 g4 hl1 kfw hT1 hb2 hr kfew
  cases r with
  | false =>
    go_wp2_with fail
    refine (k9 _).mono ?_
    rintro _ w3 ⟨rfl, hb3⟩
    have hT3 := hT2.below hb3
    go_wp2
    go_ret
    exact ⟨rfl, hT3.2.2.2⟩
  | true =>
    have hFP := HFw.out (HR.out rfl)
    have m5 := m5.out hFP
    have m6 := m6.out hFP
    have M5 : Hid _ := m5
    have M6 : Hid _ := m6
    clear m5 m6 HFw HR
    obtain ⟨g0, g1, g2, g3, g4, g5, g6, g7, g8, g9, g10, g11, g12⟩ := hT2.1.cells
    dsimp only at g0 g1 g2 g3 g4 g5 g6 g7 g8 g9 g10 g11 g12
    have hl2 := box_lt hT2.1
    have k1 := m1.out _ hT2.2.2.2
    go_wp2_with fail
    refine k1.mono ?_
    rintro _ w3 ⟨v3, rfl, ho3, hb3⟩
    have hT3 := hT2.below hb3
    have k2 := m2.out w3 v3 ho3.has
    clear g0 g1 g2 g3 g4 g5 g6 g7 g8 g9 g10 g11 g12 hl2 k1 hT2 hb3 ho3 m1 m2
    go_wp2_with fail
    refine k2.mono ?_
    rintro _ w4 ⟨X, rfl, hX1, hfX, hb4⟩
    have hT4 := hT3.below hb4
    have HX1 : Hid (X.e = x1) := hX1
    have hba : Below w4.heap.size w4 (w4.alloc (.cells X.arr 28)) := (Below.refl _ _).alloc (Nat.le_refl _) _
    have hT5 := hT4.below hba
    have hbX : EntAt (w4.alloc (.cells X.arr 28)) w4.heap.size X := heap_alloc_new w4 _
    have hfX5 := hfX.below hba
    clear k2 hT3 hb4 hT4 hX1 hba hfX
    have HfX : Hid _ := hfX5
    obtain ⟨xi, xt, xk, ⟨xck, xcs, xcq, xckey, xcold, xcval, xcunt, xclim⟩, ⟨⟨xp, xn, xc⟩, ⟨xq, xm, xd⟩, xf⟩⟩ := X
    unfold EntV.arr at *
    dsimp only at *
    go_upto_region 4 with fail
    generalize w4.alloc (.cells #[.int .i64 xi, .int .i64 xt, .int .i64 xk, .int .i64 xck, .int .i64 xcs, .int .i64 xcq, .string xckey, .string xcold, .string xcval, .string xcunt, .int .i64 xclim, .slice xp xn xc, .slice xq xm xd] 28) = w5 at *
    replace hbX : EntAt w5 w4.heap.size ⟨xi, xt, xk, ⟨xck, xcs, xcq, xckey, xcold, xcval, xcunt, xclim⟩, ⟨⟨xp, xn, xc⟩, ⟨xq, xm, xd⟩, xf⟩⟩ := hbX
    generalize w4.heap.size = bX at *
    obtain ⟨g0, g1, g2⟩ := hT5.2.1.cells
    dsimp only at g0 g1 g2
    have hl5 := box_lt hT5.2.1
    have k3 := m3.out w5
    go_wp2_with fail
    refine k3.mono ?_
    rintro _ w6 ⟨v6, rfl, ho6, hb6⟩
    have hT6 := hT5.below hb6
    have hbX6 : EntAt w6 bX ⟨xi, xt, xk, ⟨xck, xcs, xcq, xckey, xcold, xcval, xcunt, xclim⟩, ⟨⟨xp, xn, xc⟩, ⟨xq, xm, xd⟩, xf⟩⟩ := box_below hbX hb6
    have hfX6 := hfX5.below hb6
    have k4 := m4.out w6 v6 ho6.has
    clear g0 g1 g2 hl5 k3 hT5 hb6 ho6 m3 m4 hbX hfX5 HfX
    go_wp2_with fail
    refine k4.mono ?_
    rintro _ w7 ⟨Y, rfl, hY, hb7⟩
    have hT7 := hT6.below hb7
    have hbX7 : EntAt w7 bX ⟨xi, xt, xk, ⟨xck, xcs, xcq, xckey, xcold, xcval, xcunt, xclim⟩, ⟨⟨xp, xn, xc⟩, ⟨xq, xm, xd⟩, xf⟩⟩ := box_below hbX6 hb7
    have hfX7 := hfX6.below hb7
    have HY : Hid _ := hY
    have hba : Below w7.heap.size w7 (w7.alloc (.cells Y.arr 41)) := (Below.refl _ _).alloc (Nat.le_refl _) _
    have hT8 := hT7.below hba
    have hbX8 : EntAt _ bX ⟨xi, xt, xk, ⟨xck, xcs, xcq, xckey, xcold, xcval, xcunt, xclim⟩, ⟨⟨xp, xn, xc⟩, ⟨xq, xm, xd⟩, xf⟩⟩ := box_below hbX7 hba
    have hfX8 := hfX7.below hba
    have hbY : HardAt (w7.alloc (.cells Y.arr 41)) w7.heap.size Y := heap_alloc_new w7 _
    clear k4 hT6 hb7 hT7 hbX6 hbX7 hfX6 hfX7 hba hY
    obtain ⟨yt, yv, yc⟩ := Y
    unfold Hard10.arr at *
    dsimp only at *
    go_upto_region 5 with fail
    generalize w7.alloc (.cells #[.int .i64 yt, .int .i64 yv, .int .i64 yc] 41) = w8 at *
    replace hbY : HardAt w8 w7.heap.size ⟨yt, yv, yc⟩ := hbY
    replace hbX8 : EntAt w8 bX ⟨xi, xt, xk, ⟨xck, xcs, xcq, xckey, xcold, xcval, xcunt, xclim⟩, ⟨⟨xp, xn, xc⟩, ⟨xq, xm, xd⟩, xf⟩⟩ := hbX8
    generalize w7.heap.size = bY at *
    obtain ⟨g0, g1, g2, g3, g4⟩ := hT8.2.2.1.cells
    dsimp only at g0 g1 g2 g3 g4
    have hl8 := box_lt hT8.2.2.1
    have k5 := M5.out w8 hT8.2.2.2
    go_wp2_with fail
    refine k5.mono ?_
    rintro _ w9 ⟨v9, rfl, ho9, hb9⟩
    have hT9 := hT8.below hb9
    have hbX9 : EntAt w9 bX ⟨xi, xt, xk, ⟨xck, xcs, xcq, xckey, xcold, xcval, xcunt, xclim⟩, ⟨⟨xp, xn, xc⟩, ⟨xq, xm, xd⟩, xf⟩⟩ := box_below hbX8 hb9
    have hbY9 : HardAt w9 bY ⟨yt, yv, yc⟩ := box_below hbY hb9
    have hfX9 := hfX8.below hb9
    have k6 := M6.out w9 v9 ho9.has
    clear g0 g1 g2 g3 g4 hl8 k5 hT8 hb9 ho9 M5 M6 hbX8 hbY hfX8
    go_wp2_with fail
    refine k6.mono ?_
    rintro _ y1 ⟨Z, rfl, hZ, hfZ, hb1⟩
    have hU1 := hT9.below hb1
    have hX1 : EntAt y1 bX ⟨xi, xt, xk, ⟨xck, xcs, xcq, xckey, xcold, xcval, xcunt, xclim⟩, ⟨⟨xp, xn, xc⟩, ⟨xq, xm, xd⟩, xf⟩⟩ := box_below hbX9 hb1
    have hY1 : HardAt y1 bY ⟨yt, yv, yc⟩ := box_below hbY9 hb1
    have fX1 := hfX9.below hb1
    have HZ : Hid _ := hZ
    have hba : Below y1.heap.size y1 (y1.alloc (.cells Z.arr 39)) := (Below.refl _ _).alloc (Nat.le_refl _) _
    have hU2 := hU1.below hba
    have hX2 : EntAt _ bX ⟨xi, xt, xk, ⟨xck, xcs, xcq, xckey, xcold, xcval, xcunt, xclim⟩, ⟨⟨xp, xn, xc⟩, ⟨xq, xm, xd⟩, xf⟩⟩ := box_below hX1 hba
    have hY2 : HardAt _ bY ⟨yt, yv, yc⟩ := box_below hY1 hba
    have fX2 := fX1.below hba
    have hZ2 : SnapAt (y1.alloc (.cells Z.arr 39)) y1.heap.size Z := heap_alloc_new y1 _
    have fZ2 := hfZ.below hba
    clear k6 hT9 hb1 hU1 hbX9 hbY9 hX1 hY1 hfX9 fX1 hba hfZ hZ
    obtain ⟨zi, zt, ⟨⟨zp, zn, zc⟩, ⟨zq, zm, zd⟩, zf⟩, ⟨za, zb, ze⟩, zdd⟩ := Z
    unfold SnapV.arr at *
    dsimp only at *
    go_upto_region 6 with fail
    generalize y1.alloc (.cells #[.int .i64 zi, .int .i64 zt, .slice zp zn zc, .slice zq zm zd, .slice za zb ze] 39) = y2 at *
    replace hZ2 : SnapAt y2 y1.heap.size ⟨zi, zt, ⟨⟨zp, zn, zc⟩, ⟨zq, zm, zd⟩, zf⟩, ⟨za, zb, ze⟩, zdd⟩ := hZ2
    replace hX2 : EntAt y2 bX ⟨xi, xt, xk, ⟨xck, xcs, xcq, xckey, xcold, xcval, xcunt, xclim⟩, ⟨⟨xp, xn, xc⟩, ⟨xq, xm, xd⟩, xf⟩⟩ := hX2
    replace hY2 : HardAt y2 bY ⟨yt, yv, yc⟩ := hY2
    generalize y1.heap.size = bZ at *
    obtain ⟨g0, g1, g2, g3, g4, g5, g6, g7, g8, g9, g10, g11, g12⟩ := hX2.cells
    dsimp only at g0 g1 g2 g3 g4 g5 g6 g7 g8 g9 g10 g11 g12
    have hlX := box_lt hX2
    rcases HE.out with ⟨rfl, hg1, hsm⟩ | ⟨rfl, rfl⟩
    · have HSM : Hid _ := hsm
      have kg := goodE_any ⟨xi, xt, xk, ⟨xck, xcs, xcq, xckey, xcold, xcval, xcunt, xclim⟩, ⟨⟨xp, xn, xc⟩, ⟨xq, xm, xd⟩, xf⟩⟩ y2 fX2
      rw [HX1.out, hg1] at kg
      unfold EntV.arr at kg
      dsimp only at kg
      clear hg1 hsm
      go_wp2_with fail
      refine kg.mono ?_
      rintro _ y3 ⟨rfl, hb3⟩
      have hU3 := hU2.below hb3
      have hX3 : EntAt y3 bX ⟨xi, xt, xk, ⟨xck, xcs, xcq, xckey, xcold, xcval, xcunt, xclim⟩, ⟨⟨xp, xn, xc⟩, ⟨xq, xm, xd⟩, xf⟩⟩ := box_below hX2 hb3
      have hY3 : HardAt y3 bY ⟨yt, yv, yc⟩ := box_below hY2 hb3
      have hZ3 : SnapAt y3 bZ ⟨zi, zt, ⟨⟨zp, zn, zc⟩, ⟨zq, zm, zd⟩, zf⟩, ⟨za, zb, ze⟩, zdd⟩ := box_below hZ2 hb3
      have fX3 := fX2.below hb3
      have fZ3 := fZ2.below hb3
      clear g0 g1 g2 g3 g4 g5 g6 g7 g8 g9 g10 g11 g12 hlX kg hU2 hX2 hY2 hZ2 fX2 fZ2 hb3
      obtain ⟨g0, g1, g2, g3, g4, g5, g6, g7, g8, g9, g10, g11, g12⟩ := hU3.1.cells
      dsimp only at g0 g1 g2 g3 g4 g5 g6 g7 g8 g9 g10 g11 g12
      have hlA := box_lt hU3.1
      have kx := m7x.out y3 hU3.2.2.2
      go_wp2_with fail
      refine kx.mono ?_
      rintro _ y4 ⟨rfl, hb4⟩
      have hU4 := hU3.below hb4
      have hX4 : EntAt y4 bX ⟨xi, xt, xk, ⟨xck, xcs, xcq, xckey, xcold, xcval, xcunt, xclim⟩, ⟨⟨xp, xn, xc⟩, ⟨xq, xm, xd⟩, xf⟩⟩ := box_below hX3 hb4
      have hY4 : HardAt y4 bY ⟨yt, yv, yc⟩ := box_below hY3 hb4
      have hZ4 : SnapAt y4 bZ ⟨zi, zt, ⟨⟨zp, zn, zc⟩, ⟨zq, zm, zd⟩, zf⟩, ⟨za, zb, ze⟩, zdd⟩ := box_below hZ3 hb4
      have fX4 := fX3.below hb4
      have fZ4 := fZ3.below hb4
      clear g0 g1 g2 g3 g4 g5 g6 g7 g8 g9 g10 g11 g12 hlA kx hU3 hX3 hY3 hZ3 fX3 fZ3 hb4
      cases gx with
      | true =>
        have ks := m8.out y4 ⟨xi, xt, xk, ⟨xck, xcs, xcq, xckey, xcold, xcval, xcunt, xclim⟩, ⟨⟨xp, xn, xc⟩, ⟨xq, xm, xd⟩, xf⟩⟩ fX4 hU4.2.2.2
        rw [HX1.out, HSM.out rfl] at ks
        dsimp only at ks
        obtain ⟨g0, g1, g2, g3, g4, g5, g6, g7, g8, g9, g10, g11, g12⟩ := hU4.1.cells
        dsimp only at g0 g1 g2 g3 g4 g5 g6 g7 g8 g9 g10 g11 g12
        obtain ⟨u0, u1, u2, u3, u4, u5, u6, u7, u8, u9, u10, u11, u12⟩ := hX4.cells
        dsimp only at u0 u1 u2 u3 u4 u5 u6 u7 u8 u9 u10 u11 u12
        have hlA := box_lt hU4.1
        have hlX := box_lt hX4
        go_wp2_with fail
        refine ks.mono ?_
        rintro _ y5 ⟨rfl, hb5⟩
        have hUE := hU4.below hb5
        have hYE : HardAt y5 bY ⟨yt, yv, yc⟩ := box_below hY4 hb5
        have hZE : SnapAt y5 bZ ⟨zi, zt, ⟨⟨zp, zn, zc⟩, ⟨zq, zm, zd⟩, zf⟩, ⟨za, zb, ze⟩, zdd⟩ := box_below hZ4 hb5
        have fZE := fZ4.below hb5
        clear g0 g1 g2 g3 g4 g5 g6 g7 g8 g9 g10 g11 g12 u0 u1 u2 u3 u4 u5 u6 u7 u8 u9 u10 u11 u12 hlA hlX ks hU4 hX4 hY4 hZ4 fX4 fZ4 hb5
        go_upto_region 8 with fail
        obtain ⟨g0, g1, g2⟩ := hUE.2.1.cells
        dsimp only at g0 g1 g2
        obtain ⟨u0, u1, u2⟩ := hYE.cells
        dsimp only at u0 u1 u2
        have hlA := box_lt hUE.2.1
        have hlB := box_lt hYE
        rcases HH.out with ⟨rfl, rfl, hxy⟩ | ⟨rfl, rfl⟩
        · obtain ⟨p1_, p2_, p3_⟩ := HHp.out rfl
          have hYY := HY.out.trans hxy
          simp only [Hard10.mk.injEq] at hYY
          obtain ⟨rfl, rfl, rfl⟩ := hYY
          go_upto_region 10 with fail
          clear g0 g1 g2 u0 u1 u2 hlA hlB
          obtain ⟨g0, g1, g2, g3, g4⟩ := hUE.2.2.1.cells
          dsimp only at g0 g1 g2 g3 g4
          have hlS := box_lt hUE.2.2.1
          have kz := m9.out _ hUE.2.2.2
          rcases HSn.out with ⟨rfl, rfl, hxz⟩ | ⟨rfl, rfl⟩
          · go_wp2_with fail
            refine kz.mono ?_
            rintro _ y6 ⟨rfl, hb6⟩
            have hU6 := hUE.below hb6
            have hZ6 : SnapAt y6 bZ ⟨zi, zt, ⟨⟨zp, zn, zc⟩, ⟨zq, zm, zd⟩, zf⟩, ⟨za, zb, ze⟩, zdd⟩ := box_below hZE hb6
            have fZ6 := fZE.below hb6
            have kq := m10.out y6 ⟨zi, zt, ⟨⟨zp, zn, zc⟩, ⟨zq, zm, zd⟩, zf⟩, ⟨za, zb, ze⟩, zdd⟩ fZ6 (HZ.out.trans hxz) hU6.2.2.2
            dsimp only at kq
            clear g0 g1 g2 g3 g4 hlS kz hUE hZE fZE hb6
            obtain ⟨g0, g1, g2, g3, g4⟩ := hU6.2.2.1.cells
            dsimp only at g0 g1 g2 g3 g4
            obtain ⟨u0, u1, u2, u3, u4⟩ := hZ6.cells
            dsimp only at u0 u1 u2 u3 u4
            have hlS := box_lt hU6.2.2.1
            have hlZ := box_lt hZ6
            go_wp2_with fail
            refine kq.mono ?_
            rintro _ y7 ⟨rfl, hb7⟩
            have hU7 := hU6.below hb7
            clear g0 g1 g2 g3 g4 u0 u1 u2 u3 u4 hlS hlZ kq hU6 hZ6 fZ6 hb7
            go_wp2_with fail
            refine (k9 _).mono ?_
            rintro _ y8 ⟨rfl, hb8⟩
            have hU8 := hU7.below hb8
            go_wp2
            go_ret
            exact ⟨rfl, hU8.2.2.2⟩
          · go_wp2_with fail
            refine kz.mono ?_
            rintro _ y6 ⟨rfl, hb6⟩
            have hU6 := hUE.below hb6
            clear g0 g1 g2 g3 g4 hlS kz hUE hZE fZE hb6
            go_wp2_with fail
            refine (k9 _).mono ?_
            rintro _ y8 ⟨rfl, hb8⟩
            have hU8 := hU6.below hb8
            go_wp2
            go_ret
            exact ⟨rfl, hU8.2.2.2⟩
        · rcases HHn.out rfl with h_ | ⟨h1_, h2_⟩ | ⟨h1_, h2_, h3_⟩
          all_goals
            go_upto_region 10 with fail
            clear g0 g1 g2 u0 u1 u2 hlA hlB
            obtain ⟨g0, g1, g2, g3, g4⟩ := hUE.2.2.1.cells
            dsimp only at g0 g1 g2 g3 g4
            have hlS := box_lt hUE.2.2.1
            have kz := m9.out _ hUE.2.2.2
            rcases HSn.out with ⟨rfl, rfl, hxz⟩ | ⟨rfl, rfl⟩
            · go_wp2_with fail
              refine kz.mono ?_
              rintro _ y6 ⟨rfl, hb6⟩
              have hU6 := hUE.below hb6
              have hZ6 : SnapAt y6 bZ ⟨zi, zt, ⟨⟨zp, zn, zc⟩, ⟨zq, zm, zd⟩, zf⟩, ⟨za, zb, ze⟩, zdd⟩ := box_below hZE hb6
              have fZ6 := fZE.below hb6
              have kq := m10.out y6 ⟨zi, zt, ⟨⟨zp, zn, zc⟩, ⟨zq, zm, zd⟩, zf⟩, ⟨za, zb, ze⟩, zdd⟩ fZ6 (HZ.out.trans hxz) hU6.2.2.2
              dsimp only at kq
              clear g0 g1 g2 g3 g4 hlS kz hUE hZE fZE hb6
              obtain ⟨g0, g1, g2, g3, g4⟩ := hU6.2.2.1.cells
              dsimp only at g0 g1 g2 g3 g4
              obtain ⟨u0, u1, u2, u3, u4⟩ := hZ6.cells
              dsimp only at u0 u1 u2 u3 u4
              have hlS := box_lt hU6.2.2.1
              have hlZ := box_lt hZ6
              go_wp2_with fail
              refine kq.mono ?_
              rintro _ y7 ⟨rfl, hb7⟩
              have hU7 := hU6.below hb7
              clear g0 g1 g2 g3 g4 u0 u1 u2 u3 u4 hlS hlZ kq hU6 hZ6 fZ6 hb7
              go_wp2_with fail
              refine (k9 _).mono ?_
              rintro _ y8 ⟨rfl, hb8⟩
              have hU8 := hU7.below hb8
              go_wp2
              go_ret
              exact ⟨rfl, hU8.2.2.2⟩
            · go_wp2_with fail
              refine kz.mono ?_
              rintro _ y6 ⟨rfl, hb6⟩
              have hU6 := hUE.below hb6
              clear g0 g1 g2 g3 g4 hlS kz hUE hZE fZE hb6
              go_wp2_with fail
              refine (k9 _).mono ?_
              rintro _ y8 ⟨rfl, hb8⟩
              have hU8 := hU6.below hb8
              go_wp2
              go_ret
              exact ⟨rfl, hU8.2.2.2⟩
      | false =>
        have hUE := hU4
        have hYE := hY4
        have hZE := hZ4
        have fZE := fZ4
        clear hU4 hX4 hY4 hZ4 fX4 fZ4
        go_upto_region 8 with fail
        obtain ⟨g0, g1, g2⟩ := hUE.2.1.cells
        dsimp only at g0 g1 g2
        obtain ⟨u0, u1, u2⟩ := hYE.cells
        dsimp only at u0 u1 u2
        have hlA := box_lt hUE.2.1
        have hlB := box_lt hYE
        rcases HH.out with ⟨rfl, rfl, hxy⟩ | ⟨rfl, rfl⟩
        · obtain ⟨p1_, p2_, p3_⟩ := HHp.out rfl
          have hYY := HY.out.trans hxy
          simp only [Hard10.mk.injEq] at hYY
          obtain ⟨rfl, rfl, rfl⟩ := hYY
          go_upto_region 10 with fail
          clear g0 g1 g2 u0 u1 u2 hlA hlB
          obtain ⟨g0, g1, g2, g3, g4⟩ := hUE.2.2.1.cells
          dsimp only at g0 g1 g2 g3 g4
          have hlS := box_lt hUE.2.2.1
          have kz := m9.out _ hUE.2.2.2
          rcases HSn.out with ⟨rfl, rfl, hxz⟩ | ⟨rfl, rfl⟩
          · go_wp2_with fail
            refine kz.mono ?_
            rintro _ y6 ⟨rfl, hb6⟩
            have hU6 := hUE.below hb6
            have hZ6 : SnapAt y6 bZ ⟨zi, zt, ⟨⟨zp, zn, zc⟩, ⟨zq, zm, zd⟩, zf⟩, ⟨za, zb, ze⟩, zdd⟩ := box_below hZE hb6
            have fZ6 := fZE.below hb6
            have kq := m10.out y6 ⟨zi, zt, ⟨⟨zp, zn, zc⟩, ⟨zq, zm, zd⟩, zf⟩, ⟨za, zb, ze⟩, zdd⟩ fZ6 (HZ.out.trans hxz) hU6.2.2.2
            dsimp only at kq
            clear g0 g1 g2 g3 g4 hlS kz hUE hZE fZE hb6
            obtain ⟨g0, g1, g2, g3, g4⟩ := hU6.2.2.1.cells
            dsimp only at g0 g1 g2 g3 g4
            obtain ⟨u0, u1, u2, u3, u4⟩ := hZ6.cells
            dsimp only at u0 u1 u2 u3 u4
            have hlS := box_lt hU6.2.2.1
            have hlZ := box_lt hZ6
            go_wp2_with fail
            refine kq.mono ?_
            rintro _ y7 ⟨rfl, hb7⟩
            have hU7 := hU6.below hb7
            clear g0 g1 g2 g3 g4 u0 u1 u2 u3 u4 hlS hlZ kq hU6 hZ6 fZ6 hb7
            go_wp2_with fail
            refine (k9 _).mono ?_
            rintro _ y8 ⟨rfl, hb8⟩
            have hU8 := hU7.below hb8
            go_wp2
            go_ret
            exact ⟨rfl, hU8.2.2.2⟩
          · go_wp2_with fail
            refine kz.mono ?_
            rintro _ y6 ⟨rfl, hb6⟩
            have hU6 := hUE.below hb6
            clear g0 g1 g2 g3 g4 hlS kz hUE hZE fZE hb6
            go_wp2_with fail
            refine (k9 _).mono ?_
            rintro _ y8 ⟨rfl, hb8⟩
            have hU8 := hU6.below hb8
            go_wp2
            go_ret
            exact ⟨rfl, hU8.2.2.2⟩
        · rcases HHn.out rfl with h_ | ⟨h1_, h2_⟩ | ⟨h1_, h2_, h3_⟩
          all_goals
            go_upto_region 10 with fail
            clear g0 g1 g2 u0 u1 u2 hlA hlB
            obtain ⟨g0, g1, g2, g3, g4⟩ := hUE.2.2.1.cells
            dsimp only at g0 g1 g2 g3 g4
            have hlS := box_lt hUE.2.2.1
            have kz := m9.out _ hUE.2.2.2
            rcases HSn.out with ⟨rfl, rfl, hxz⟩ | ⟨rfl, rfl⟩
            · go_wp2_with fail
              refine kz.mono ?_
              rintro _ y6 ⟨rfl, hb6⟩
              have hU6 := hUE.below hb6
              have hZ6 : SnapAt y6 bZ ⟨zi, zt, ⟨⟨zp, zn, zc⟩, ⟨zq, zm, zd⟩, zf⟩, ⟨za, zb, ze⟩, zdd⟩ := box_below hZE hb6
              have fZ6 := fZE.below hb6
              have kq := m10.out y6 ⟨zi, zt, ⟨⟨zp, zn, zc⟩, ⟨zq, zm, zd⟩, zf⟩, ⟨za, zb, ze⟩, zdd⟩ fZ6 (HZ.out.trans hxz) hU6.2.2.2
              dsimp only at kq
              clear g0 g1 g2 g3 g4 hlS kz hUE hZE fZE hb6
              obtain ⟨g0, g1, g2, g3, g4⟩ := hU6.2.2.1.cells
              dsimp only at g0 g1 g2 g3 g4
              obtain ⟨u0, u1, u2, u3, u4⟩ := hZ6.cells
              dsimp only at u0 u1 u2 u3 u4
              have hlS := box_lt hU6.2.2.1
              have hlZ := box_lt hZ6
              go_wp2_with fail
              refine kq.mono ?_
              rintro _ y7 ⟨rfl, hb7⟩
              have hU7 := hU6.below hb7
              clear g0 g1 g2 g3 g4 u0 u1 u2 u3 u4 hlS hlZ kq hU6 hZ6 fZ6 hb7
              go_wp2_with fail
              refine (k9 _).mono ?_
              rintro _ y8 ⟨rfl, hb8⟩
              have hU8 := hU7.below hb8
              go_wp2
              go_ret
              exact ⟨rfl, hU8.2.2.2⟩
            · go_wp2_with fail
              refine kz.mono ?_
              rintro _ y6 ⟨rfl, hb6⟩
              have hU6 := hUE.below hb6
              clear g0 g1 g2 g3 g4 hlS kz hUE hZE fZE hb6
              go_wp2_with fail
              refine (k9 _).mono ?_
              rintro _ y8 ⟨rfl, hb8⟩
              have hU8 := hU6.below hb8
              go_wp2
              go_ret
              exact ⟨rfl, hU8.2.2.2⟩
    · have kx := m7x.out y2 hU2.2.2.2
      clear g0 g1 g2 g3 g4 g5 g6 g7 g8 g9 g10 g11 g12 hlX
      obtain ⟨g0, g1, g2, g3, g4, g5, g6, g7, g8, g9, g10, g11, g12⟩ := hU2.1.cells
      dsimp only at g0 g1 g2 g3 g4 g5 g6 g7 g8 g9 g10 g11 g12
      have hlA := box_lt hU2.1
      go_wp2_with fail
      refine kx.mono ?_
      rintro _ y4 ⟨rfl, hb4⟩
      have hUE := hU2.below hb4
      have hYE : HardAt y4 bY ⟨yt, yv, yc⟩ := box_below hY2 hb4
      have hZE : SnapAt y4 bZ ⟨zi, zt, ⟨⟨zp, zn, zc⟩, ⟨zq, zm, zd⟩, zf⟩, ⟨za, zb, ze⟩, zdd⟩ := box_below hZ2 hb4
      have fZE := fZ2.below hb4
      clear g0 g1 g2 g3 g4 g5 g6 g7 g8 g9 g10 g11 g12 hlA kx hU2 hX2 hY2 hZ2 fX2 fZ2 hb4
      go_upto_region 8 with fail
      obtain ⟨g0, g1, g2⟩ := hUE.2.1.cells
      dsimp only at g0 g1 g2
      obtain ⟨u0, u1, u2⟩ := hYE.cells
      dsimp only at u0 u1 u2
      have hlA := box_lt hUE.2.1
      have hlB := box_lt hYE
      rcases HH.out with ⟨rfl, rfl, hxy⟩ | ⟨rfl, rfl⟩
      · obtain ⟨p1_, p2_, p3_⟩ := HHp.out rfl
        have hYY := HY.out.trans hxy
        simp only [Hard10.mk.injEq] at hYY
        obtain ⟨rfl, rfl, rfl⟩ := hYY
        go_upto_region 10 with fail
        clear g0 g1 g2 u0 u1 u2 hlA hlB
        obtain ⟨g0, g1, g2, g3, g4⟩ := hUE.2.2.1.cells
        dsimp only at g0 g1 g2 g3 g4
        have hlS := box_lt hUE.2.2.1
        have kz := m9.out _ hUE.2.2.2
        rcases HSn.out with ⟨rfl, rfl, hxz⟩ | ⟨rfl, rfl⟩
        · go_wp2_with fail
          refine kz.mono ?_
          rintro _ y6 ⟨rfl, hb6⟩
          have hU6 := hUE.below hb6
          have hZ6 : SnapAt y6 bZ ⟨zi, zt, ⟨⟨zp, zn, zc⟩, ⟨zq, zm, zd⟩, zf⟩, ⟨za, zb, ze⟩, zdd⟩ := box_below hZE hb6
          have fZ6 := fZE.below hb6
          have kq := m10.out y6 ⟨zi, zt, ⟨⟨zp, zn, zc⟩, ⟨zq, zm, zd⟩, zf⟩, ⟨za, zb, ze⟩, zdd⟩ fZ6 (HZ.out.trans hxz) hU6.2.2.2
          dsimp only at kq
          clear g0 g1 g2 g3 g4 hlS kz hUE hZE fZE hb6
          obtain ⟨g0, g1, g2, g3, g4⟩ := hU6.2.2.1.cells
          dsimp only at g0 g1 g2 g3 g4
          obtain ⟨u0, u1, u2, u3, u4⟩ := hZ6.cells
          dsimp only at u0 u1 u2 u3 u4
          have hlS := box_lt hU6.2.2.1
          have hlZ := box_lt hZ6
          go_wp2_with fail
          refine kq.mono ?_
          rintro _ y7 ⟨rfl, hb7⟩
          have hU7 := hU6.below hb7
          clear g0 g1 g2 g3 g4 u0 u1 u2 u3 u4 hlS hlZ kq hU6 hZ6 fZ6 hb7
          go_wp2_with fail
          refine (k9 _).mono ?_
          rintro _ y8 ⟨rfl, hb8⟩
          have hU8 := hU7.below hb8
          go_wp2
          go_ret
          exact ⟨rfl, hU8.2.2.2⟩
        · go_wp2_with fail
          refine kz.mono ?_
          rintro _ y6 ⟨rfl, hb6⟩
          have hU6 := hUE.below hb6
          clear g0 g1 g2 g3 g4 hlS kz hUE hZE fZE hb6
          go_wp2_with fail
          refine (k9 _).mono ?_
          rintro _ y8 ⟨rfl, hb8⟩
          have hU8 := hU6.below hb8
          go_wp2
          go_ret
          exact ⟨rfl, hU8.2.2.2⟩
      · rcases HHn.out rfl with h_ | ⟨h1_, h2_⟩ | ⟨h1_, h2_, h3_⟩
        all_goals
          go_upto_region 10 with fail
          clear g0 g1 g2 u0 u1 u2 hlA hlB
          obtain ⟨g0, g1, g2, g3, g4⟩ := hUE.2.2.1.cells
          dsimp only at g0 g1 g2 g3 g4
          have hlS := box_lt hUE.2.2.1
          have kz := m9.out _ hUE.2.2.2
          rcases HSn.out with ⟨rfl, rfl, hxz⟩ | ⟨rfl, rfl⟩
          · go_wp2_with fail
            refine kz.mono ?_
            rintro _ y6 ⟨rfl, hb6⟩
            have hU6 := hUE.below hb6
            have hZ6 : SnapAt y6 bZ ⟨zi, zt, ⟨⟨zp, zn, zc⟩, ⟨zq, zm, zd⟩, zf⟩, ⟨za, zb, ze⟩, zdd⟩ := box_below hZE hb6
            have fZ6 := fZE.below hb6
            have kq := m10.out y6 ⟨zi, zt, ⟨⟨zp, zn, zc⟩, ⟨zq, zm, zd⟩, zf⟩, ⟨za, zb, ze⟩, zdd⟩ fZ6 (HZ.out.trans hxz) hU6.2.2.2
            dsimp only at kq
            clear g0 g1 g2 g3 g4 hlS kz hUE hZE fZE hb6
            obtain ⟨g0, g1, g2, g3, g4⟩ := hU6.2.2.1.cells
            dsimp only at g0 g1 g2 g3 g4
            obtain ⟨u0, u1, u2, u3, u4⟩ := hZ6.cells
            dsimp only at u0 u1 u2 u3 u4
            have hlS := box_lt hU6.2.2.1
            have hlZ := box_lt hZ6
            go_wp2_with fail
            refine kq.mono ?_
            rintro _ y7 ⟨rfl, hb7⟩
            have hU7 := hU6.below hb7
            clear g0 g1 g2 g3 g4 u0 u1 u2 u3 u4 hlS hlZ kq hU6 hZ6 fZ6 hb7
            go_wp2_with fail
            refine (k9 _).mono ?_
            rintro _ y8 ⟨rfl, hb8⟩
            have hU8 := hU7.below hb8
            go_wp2
            go_ret
            exact ⟨rfl, hU8.2.2.2⟩
          · go_wp2_with fail
            refine kz.mono ?_
            rintro _ y6 ⟨rfl, hb6⟩
            have hU6 := hUE.below hb6
            clear g0 g1 g2 g3 g4 hlS kz hUE hZE fZE hb6
            go_wp2_with fail
            refine (k9 _).mono ?_
            rintro _ y8 ⟨rfl, hb8⟩
            have hU8 := hU6.below hb8
            go_wp2
            go_ret
            exact ⟨rfl, hU8.2.2.2⟩
end Go.Proofs.Ytnbaoimjcaeeaaa
