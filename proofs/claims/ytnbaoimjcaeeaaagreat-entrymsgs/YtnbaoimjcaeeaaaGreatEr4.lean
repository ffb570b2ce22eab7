/-
  Contracts: corbelref10.SameSnap; '==' of what must not be forgotten; the walk of EntryBack.
-/
import Derived.Test.YtnbaoimjcaeeaaaGreatEo6To
import Derived.Test.YtnbaoimjcaeeaaaGreatEn7To
import Derived.Test.YtnbaoimjcaeeaaaGreatEr3To
namespace Go.Proofs.YtnbaoimjcaeeaaaGreat
open Go.RowKit Go.Shelf

def sameH10 (a b : Hard10) : Bool := decide (a.t = b.t) && decide (a.v = b.v) && decide (a.c = b.c)
theorem sameH10_self (a : Hard10) : sameH10 a a = true := by simp [sameH10]

set_option maxRecDepth 100000 in
set_option maxHeartbeats 1500000 in
theorem eqlH (t v c t' v' c' : Int) (W : World) : Sem.run Tryz.prog (binOp .eql 37 (.agg #[.int .i64 t, .int .i64 v, .int .i64 c]) (.agg #[.int .i64 t', .int .i64 v', .int .i64 c'])) W = .ok (.bool (sameH10 ⟨t, v, c⟩ ⟨t', v', c'⟩)) W := by
  have u3 := Tryz.underlying3
  have a3 := Tryz.isAgg3
  have z3 := Tryz.sizeOf3
  have hS : Tryz.prog.underlying 37 = some (.struct (Tryz.prog.fieldsOf 37)) := by kernel_rfl
  have hp : Tryz.prog.stoodInHeld 37 = false := by kernel_rfl
  rw [run_eql_struct, show (10000 : Nat) = 9999 + 1 from rfl, run_equalIn_agg W 9999 37 _ _ hS hp]
  simp only [Program.fieldsOf, Tryz.underlying37]
  go_simp
  unfold sameH10
  by_cases h1 : t = t'
  case neg => simp [h1]
  by_cases h2 : v = v'
  case neg => simp [h1, h2]
  by_cases h3 : c = c'
  case neg => simp [h1, h2, h3]
  simp [h1, h2, h3]

theorem neqH (t v c t' v' c' : Int) (W : World) : Sem.run Tryz.prog (binOp .neq 37 (.agg #[.int .i64 t, .int .i64 v, .int .i64 c]) (.agg #[.int .i64 t', .int .i64 v', .int .i64 c'])) W = .ok (.bool (!sameH10 ⟨t, v, c⟩ ⟨t', v', c'⟩)) W := by
  have h := eqlH t v c t' v' c' W
  rw [run_eql_struct] at h
  rw [run_neq_struct]
  generalize Sem.run Tryz.prog (Op.equalIn 10000 37 _ _) W = r at h ⊢
  cases r with
  | ok b w' =>
    simp only [Result.andThen, Result.ok.injEq, Value.bool.injEq] at h ⊢
    obtain ⟨h1, h2⟩ := h
    exact ⟨by rw [h1], h2⟩
  | _ => cases h

theorem grdH (op : BinOp) (o1 o2 : Operand) (x y : Array Value) (W : World) : Sem.run Tryz.prog (eqGuard op 37 o1 o2 (.agg x) (.agg y)) W = .ok () W :=
  run_eqGuard_agg W op 37 o1 o2 x y (by kernel_rfl)


set_option maxRecDepth 100000 in
set_option maxHeartbeats 2000000 in
theorem rsameSnap_any (x y : SnapV) (w : World) (hx : FitsS w x) (hy : FitsS w y) : Calls Tryz.prog 13 #[.agg x.arr, .agg y.arr] w fun e w' => e = .returned (.bool (sameS10 x.s y.s)) ∧ Below w.heap.size w w' := by
  have hb1 : Below w.heap.size w (w.alloc (.cells x.arr 43)) := (Below.refl _ _).alloc (Nat.le_refl _) _
  have hz1 : (w.alloc (.cells x.arr 43)).heap.size = w.heap.size + 1 := by simp
  have hb2 := (Below.refl _ (w.alloc (.cells x.arr 43))).alloc (Nat.le_refl _) (.cells y.arr 43)
  have hbx : SnapAt (w.alloc (.cells x.arr 43)) w.heap.size x := heap_alloc_new w _
  have hby : SnapAt ((w.alloc (.cells x.arr 43)).alloc (.cells y.arr 43)) (w.heap.size + 1) y := by rw [← hz1]; exact heap_alloc_new _ _
  have hbx2 : SnapAt _ w.heap.size x := box_below hbx hb2
  have hB := hb1.trans (hb2.mono hb1.size)
  have hbz := hB.size
  have hx2 := (hx.below hb1).below hb2
  have hy2 := (hy.below hb1).below hb2
  have ks := rsameConf_any x.f y.f _ hx2.f hy2.f
  have kd : Hid (∀ W, Below w.heap.size w W → Calls Tryz.prog 19 #[.slice x.w.p x.w.n x.w.c, .slice y.w.p y.w.n y.w.c] W fun e w' => e = .returned (.bool (decide (x.d = y.d))) ∧ w' = W) := fun W h => by have := same_any (.slice x.w.p x.w.n x.w.c) (.slice y.w.p y.w.n y.w.c) x.d y.d W (hx.w.below h (Nat.le_refl _)) (hy.w.below h (Nat.le_refl _)) hx.b hy.b; rwa [show (x.d == y.d) = decide (x.d = y.d) by rw [Bool.eq_iff_iff]; simp] at this
  have HS : Hid (sameS10 x.s y.s = (decide (x.i = y.i) && decide (x.t = y.t) && sameF10 x.f.f y.f.f && decide (x.d = y.d))) := rfl
  generalize sameF10 x.f.f y.f.f = rf at *
  generalize decide (x.d = y.d) = rd at *
  generalize hr : sameS10 x.s y.s = r at *
  clear hr hx hy hb1 hb2 hx2 hy2 hbx hz1
  obtain ⟨i, t, ⟨⟨p, n, c⟩, ⟨q, m, d⟩, f⟩, ⟨a, b, e⟩, dd⟩ := x
  obtain ⟨i', t', ⟨⟨p', n', c'⟩, ⟨q', m', d'⟩, f'⟩, ⟨a', b', e'⟩, dd'⟩ := y
  unfold SnapV.arr at *
  unfold ConfV.arr at *
  dsimp only at *
  by_cases h1 : i = i'
  case neg =>
    have HF : Hid (r = false) := by rw [Hid, HS.out, decide_eq_false h1]; simp
    have e9 : (i == i') = false := by simpa using h1
    clear HS ks kd
    go_enter Tryz.func13, Tryz.ntmps13
    go_wp2
    go_ret
    rw [HF.out]
    exact ⟨rfl, hB⟩
  subst h1
  by_cases h2 : t = t'
  case neg =>
    have HF : Hid (r = false) := by rw [Hid, HS.out, decide_eq_false h2]; simp
    have e9 : (t == t') = false := by simpa using h2
    clear HS ks kd
    go_enter Tryz.func13, Tryz.ntmps13
    go_wp2
    go_ret
    rw [HF.out]
    exact ⟨rfl, hB⟩
  subst h2
  have HF : Hid (r = (rf && rd)) := by rw [Hid, HS.out, decide_eq_true rfl, decide_eq_true rfl]; rfl
  clear HS
  cases rf with
  | false =>
    go_enter Tryz.func13, Tryz.ntmps13
    go_wp2_with fail
    refine ks.mono ?_
    rintro _ w3 ⟨rfl, hb3⟩
    have hb9 := hB.trans (hb3.mono hbz)
    go_wp2
    go_ret
    rw [HF.out]
    exact ⟨rfl, hb9⟩
  | true =>
    go_enter Tryz.func13, Tryz.ntmps13
    go_wp2_with fail
    generalize (w.alloc (.cells #[.int .i64 i, .int .i64 t, .slice p n c, .slice q m d, .slice a b e] 43)).alloc (.cells #[.int .i64 i, .int .i64 t, .slice p' n' c', .slice q' m' d', .slice a' b' e'] 43) = W2 at *
    refine ks.mono ?_
    rintro _ w3 ⟨rfl, hb3⟩
    have hb9 := hB.trans (hb3.mono hbz)
    have k4 := kd.out w3 hb9
    have e1 : SnapAt w3 w.heap.size ⟨i, t, ⟨⟨p, n, c⟩, ⟨q, m, d⟩, f⟩, ⟨a, b, e⟩, dd⟩ := box_below hbx2 hb3
    have e2 : SnapAt w3 (w.heap.size + 1) ⟨i, t, ⟨⟨p', n', c'⟩, ⟨q', m', d'⟩, f'⟩, ⟨a', b', e'⟩, dd'⟩ := box_below hby hb3
    obtain ⟨c0, c1, c2, c3, c4⟩ := e1.cells
    obtain ⟨d0, d1, d2, d3, d4⟩ := e2.cells
    dsimp only at c0 c1 c2 c3 c4 d0 d1 d2 d3 d4
    have hl1 := box_lt e1
    have hl2 := box_lt e2
    clear ks hbx2 hby
    go_wp2_with fail
    refine same_mono k4 ?_
    go_wp2
    go_ret
    rw [HF.out]
    exact ⟨by simp, hb9⟩

theorem backE (e : Ent10) (h : ShortE10 1152921504606846976 e) (hg : goodE10 e = true) : whole10 goodE10 noE10 (pent10 (entB e, false)) = (e, 0) := by
  rw [(ent10_sim 1152921504606846976 (by decide)).whole noE10 (entB e, false)]
  have := ent10_back 1152921504606846976 e [] h (by decide) hg
  rw [List.append_nil] at this
  rw [this]
  unfold whole10
  rw [hg]
  rfl
theorem whole_good {α : Type} (g : α → Bool) (n : α) (r : α × St) : (whole10 g n r).2 = 0 ∧ g (whole10 g n r).1 = true ∨ whole10 g n r = (n, 8) := by
  unfold whole10
  split
  · rename_i h
    rw [Bool.and_eq_true] at h
    exact .inl ⟨rfl, h.2⟩
  · exact .inr rfl
theorem backH (h : Hard10) (hf : FitsH h) : whole10 goodH10 noH10 (hard10 (hardB h, false)) = if goodH10 h then (h, 0) else (noH10, 8) := by
  have := hard10_back h [] hf.1 hf.2.1 hf.2.2
  rw [List.append_nil] at this
  rw [this]
  unfold whole10
  simp
theorem backS (s : Snap10) (h : ShortS10 1152921504606846976 s) : whole10 goodS10 noS10 (snap10 9 (snapB s, false)) = if goodS10 s then (s, 0) else (noS10, 8) := by
  rw [(snap10_sim 1152921504606846976 (by decide)).whole noS10 (snapB s, false)]
  have := snap10_back 1152921504606846976 s [] h (by decide)
  rw [List.append_nil] at this
  rw [this]
  unfold whole10
  simp
theorem snapB_len {s : Snap10} (h : FewF s.f) (hd : s.d.length ≤ 1000000) : (snapB s).length ≤ 1100000 := by
  unfold snapB
  have h1 := zigB_le s.i
  have h2 := zigB_le s.t
  have h3 := confB_len h
  have h4 := bytB_len s.d
  simp only [List.length_append]
  omega
theorem hardB_len (h : Hard10) : (hardB h).length ≤ 27 := by
  unfold hardB
  have h1 := zigB_le h.t
  have h2 := zigB_le h.v
  have h3 := zigB_le h.c
  simp only [List.length_append]
  omega

/-- Three boxes, and old memory as it was. -/
def Box3 (w0 w : World) (a b c : Nat) (x : EntV) (y : Hard10) (z : SnapV) : Prop := EntAt w a x ∧ HardAt w b y ∧ SnapAt w c z ∧ Below w0.heap.size w0 w
theorem Box3.below {w0 w w' : World} {a b c : Nat} {x : EntV} {y : Hard10} {z : SnapV} (h : Box3 w0 w a b c x y z) (hb : Below w.heap.size w w') : Box3 w0 w' a b c x y z := ⟨box_below h.1 hb, box_below h.2.1 hb, box_below h.2.2.1 hb, h.2.2.2.trans (hb.mono h.2.2.2.size)⟩
theorem Box3.new (w : World) (x : EntV) (y : Hard10) (z : SnapV) : Box3 w (((w.alloc (.cells x.arr 30)).alloc (.cells y.arr 37)).alloc (.cells z.arr 43)) w.heap.size (w.heap.size + 1) (w.heap.size + 1 + 1) x y z := by
  have hb1 : Below w.heap.size w (w.alloc (.cells x.arr 30)) := (Below.refl _ _).alloc (Nat.le_refl _) _
  have hbx : EntAt (w.alloc (.cells x.arr 30)) w.heap.size x := heap_alloc_new w _
  have hz1 : (w.alloc (.cells x.arr 30)).heap.size = w.heap.size + 1 := by simp
  generalize w.alloc (.cells x.arr 30) = w1 at *
  have hb2 : Below w1.heap.size w1 (w1.alloc (.cells y.arr 37)) := (Below.refl _ _).alloc (Nat.le_refl _) _
  have hby : HardAt (w1.alloc (.cells y.arr 37)) w1.heap.size y := heap_alloc_new w1 _
  have hz2 : (w1.alloc (.cells y.arr 37)).heap.size = w1.heap.size + 1 := by simp
  generalize w1.alloc (.cells y.arr 37) = w2 at *
  have hb3 : Below w2.heap.size w2 (w2.alloc (.cells z.arr 43)) := (Below.refl _ _).alloc (Nat.le_refl _) _
  have hbz : SnapAt (w2.alloc (.cells z.arr 43)) w2.heap.size z := heap_alloc_new w2 _
  rw [hz2, hz1] at hbz
  rw [hz1] at hby
  exact ⟨box_below (box_below hbx hb2) hb3, box_below hby hb3, hbz, (hb1.trans (hb2.mono hb1.size)).trans (hb3.mono (by omega))⟩
end Go.Proofs.YtnbaoimjcaeeaaaGreat
