import Derived.Test.YthlelcmifolnfaaGreatDoorDkFTo
import Derived.Test.YthlelcmifolnfaaGreatDoorRlTo
namespace Go.Proofs.YthlelcmifolnfaaGreatDoor
open Go.RowKit Go.Maps
theorem Owns.shape {w : World} {B : Nat} {e : TypeId} {v : Value} {xs : List Int} (h : Owns w B e v xs) : ∃ p c, v = .slice p xs.length c := by
  rcases h.2 with ⟨rfl, hn⟩ | ⟨g, cap, cur, rfl, _⟩
  · exact ⟨none, 0, by rw [hn]⟩
  · exact ⟨_, _, rfl⟩
theorem writes_shape {w : World} {B : Nat} {e : TypeId} {size n : Nat} {v : Value} {xs : List Value} (h : w.ownsRow B e size v n xs) : ∃ p c, v = .slice p n c := by
  rcases h.2 with ⟨rfl, hn⟩ | ⟨g, cap, cur, rfl, _⟩
  · exact ⟨none, 0, by rw [hn]⟩
  · exact ⟨_, _, rfl⟩
def without (l : List ByteArray) (x : ByteArray) : List ByteArray := l.filter fun y => decide (y ≠ x)
theorem mem_without (l : List ByteArray) (x y : ByteArray) : y ∈ without l x ↔ y ∈ l ∧ y ≠ x := by simp [without]
def RD.drop (R : RD) (x : ByteArray) : RD := { R with names := without R.names x, wr := R.wr.filter fun v => decide (v.1 ≠ x), pending := R.pending - ((R.bt x).length - (R.su x : Int)), used := R.used - (need (R.bt x).length : Nat) }
section
variable {w w' : World} {d : Nat} {S : Nat → Prop} {φ : ByteArray → Nat} {σ : ByteArray → Value} {mb : Nat} {vb : Value} {R : RD}
theorem drop_filter {φ : ByteArray → Nat} {names : List ByteArray} (hinj : ∀ x ∈ names, ∀ y ∈ names, x ≠ y → φ x ≠ φ y) {x : ByteArray} (hx : x ∈ names) : ∀ {l : List (ByteArray × Nat)}, (∀ v ∈ l, v.1 ∈ names) → dropW (l.map fun v => (φ v.1, v.2)) (φ x) = (l.filter fun v => decide (v.1 ≠ x)).map fun v => (φ v.1, v.2)
  | [], _ => rfl
  | v :: l, h => by
    have ih := drop_filter hinj hx (l := l) fun u hu => h u (List.mem_cons_of_mem _ hu)
    unfold dropW at ih ⊢
    by_cases e : v.1 = x
    · rw [List.map_cons, List.filter_cons_of_neg (by simp [e]), List.filter_cons_of_neg (by simp [e]), ih]
    · have : φ v.1 ≠ φ x := hinj _ (h v List.mem_cons_self) _ hx e
      rw [List.map_cons, List.filter_cons_of_pos (by simpa using this), List.filter_cons_of_pos (by simpa using e), List.map_cons, ih]
theorem drop_no (h : Lies8 w d S φ σ mb vb R) {x : ByteArray} (hs : x.size ≤ maxLen) (hx : x ∉ R.names) :
    Calls Tryz.prog 87 #[.pointer (some ⟨d, 0, none⟩), .string x] w fun e w' => (∃ v, e = .returned v) ∧ Below w.heap.size w w' := by
  obtain ⟨c0, -⟩ := h.cells
  have hl := h.map.look_no hs hx
  go_enter Tryz.func87, Tryz.ntmps87
  go_wp2
  refine bodyPost_ret (results_none rfl _ _ _) rfl ?_
  exact ⟨⟨_, rfl⟩, (Below.refl _ _).alloc (Nat.le_refl _) _⟩
set_option maxRecDepth 10000 in
set_option maxHeartbeats 2000000 in
theorem drop_yes (h : Lies8 w d S φ σ mb vb R) (hS : ∀ k, w.heap.size ≤ k → S k) {x : ByteArray} (hs : x.size ≤ maxLen) (hx : x ∈ R.names) (hb : (R.bt x).length ≤ 1073741824) (hsu : R.su x ≤ (R.bt x).length)
    (hp : 0 ≤ R.pending ∧ R.pending ≤ 1099511627776) (hu : 0 ≤ R.used ∧ R.used ≤ 1099511627776) :
    Calls Tryz.prog 87 #[.pointer (some ⟨d, 0, none⟩), .string x] w fun e w' => (∃ v, e = .returned v) ∧ (∃ vb', Lies8 w' d S φ σ mb vb' (R.drop x)) ∧ Turn S w w' := by
  obtain ⟨c0, c1, -⟩ := h.cells
  have hl := h.map.look_yes hs hx
  obtain ⟨pb, cb, rfl⟩ := writes_shape h.buf
  have hbx : Below w.heap.size w (w.alloc (.cells #[.pointer (some ⟨φ x, 0, none⟩)] 115)) := (Below.refl _ _).alloc (Nat.le_refl _) _
  have hA := heap_alloc_new w (.cells #[.pointer (some ⟨φ x, 0, none⟩)] 115)
  have hza : (w.alloc (.cells #[.pointer (some ⟨φ x, 0, none⟩)] 115)).heap.size = w.heap.size + 1 := by simp
  have ha0 := cell_of hA (i := 0) (v := .pointer (some ⟨φ x, 0, none⟩)) rfl
  have h1 := h.below hbx
  have hdlt := h.lt
  have t1 : Turn S w (w.alloc (.cells #[.pointer (some ⟨φ x, 0, none⟩)] 115)) := Turn.of_below hbx (Nat.le_refl _)
  go_enter Tryz.func87, Tryz.ntmps87
  go_wp2_with fail
  generalize w.alloc (.cells #[.pointer (some ⟨φ x, 0, none⟩)] 115) = wa at *
  generalize w.heap.size = ab at *
  have hbuf : OwnsW wa (.slice pb R.wr.length cb) (R.wr.map fun v => (φ v.1, v.2)) := by
    have := h1.buf
    rw [rowV_writes] at this
    unfold OwnsW
    rw [List.length_map]
    exact this
  have hkF : ∀ y ∈ R.names, IsF wa (φ y) := fun y hy => ⟨_, h1.file y hy⟩
  refine (delete8 _ _ (φ x) ab wa hbuf ha0 (by omega) (fun e => row_apart hbuf hA (by decide) e) (hkF x hx) (fun v hv => by
    obtain ⟨u, hu, rfl⟩ := List.mem_map.1 hv
    exact hkF _ (h.mem u hu))).mono ?_
  rintro e w2 ⟨v', rfl, ho2, hv2, hg2⟩
  have hSa : ∀ k, wa.heap.size ≤ k → S k := fun k hk => hS k (by omega)
  rw [drop_filter h.inj hx h.mem] at ho2
  have hwm : ∀ v ∈ (R.wr.filter fun v => decide (v.1 ≠ x)), v.1 ∈ without R.names x := fun v hv => (mem_without _ _ _).2 ⟨h.mem v (List.mem_filter.1 hv).1, of_decide_eq_true (List.mem_filter.1 hv).2⟩
  obtain ⟨wl, Hwl⟩ : ∃ wl, Hid ((R.wr.filter fun v => decide (v.1 ≠ x)) = wl) := ⟨_, rfl⟩
  rw [Hwl.out] at ho2 hwm
  have ho3 : w2.ownsRow 0 117 2 v' wl.length (writesV φ wl) := by
    rw [rowV_writes]
    unfold OwnsW at ho2
    rw [List.length_map] at ho2
    exact ho2
  have hA2 := (hg2.block ab (by omega) fun e => row_apart hbuf hA (by decide) e.symm).trans hA
  have c1' : w2.cell? ⟨d, 1, none⟩ = some (.slice pb R.wr.length cb) := (hg2.cell (a := ⟨d, 1, none⟩) h1.cells.2.1 fun e => h1.dB e.symm)
  have f1' : w2.frozen? ⟨d, 1, none⟩ = false := by
    have := (hg2.block d h1.lt fun e => h1.dB e.symm).trans h1.obj
    exact froz_of this
  have t2 : Turn S w w2 := t1.grown hg2 fun k hk => .inl (h.sB k hk)
  have h2 := h1.setB hg2 ho3 (fun v hv => ((mem_without _ _ _).1 (hwm v hv)).1) (.inl hv2) hSa
  have t3 := t2.setCell (p := ⟨d, 1, none⟩) (.inl h.sD) v'
  have hdab : d ≠ ab := by
    intro e
    have := h1.obj
    rw [e, hA] at this
    simp only [Option.some.injEq, Obj.cells.injEq] at this
    exact absurd this.2.1 (by decide)
  have hA3 := (heap_set_other (i := 1) (v := v') (Ne.symm hdab)).trans hA2
  obtain ⟨pv, cv, rfl⟩ := writes_shape ho3
  go_wp2_with fail
  generalize w2.setCell ⟨d, 1, none⟩ (.slice pv wl.length cv) = w3 at *
  clear c1' f1' hg2 ho2 ho3 hA2 hA h1 t1 t2 hbx ha0 hbuf hkF hSa c0 c1
  have hxn : x ∈ ({ R with wr := wl } : RD).names := hx
  obtain ⟨m0, -, m2, -, m4, -, -, -, -, mf⟩ := h2.cells
  obtain ⟨k0, k1, -⟩ := h2.fcells hxn
  have hsh := (h2.row x hxn).shape
  dsimp only at m2 m4 k1 hsh
  obtain ⟨px, cx, hσ⟩ := hsh
  rw [hσ] at k0
  have Hσ : Hid (σ x = .slice px (R.bt x).length cx) := hσ
  clear hσ
  have ma := cell_of hA3 (i := 0) (v := .pointer (some ⟨φ x, 0, none⟩)) rfl
  generalize hn : (R.bt x).length = n at *
  have Hn : Hid ((R.bt x).length = n) := hn
  clear hn
  refine wp_last (by kernel_rfl) (by kernel_rfl) ?_
  dsimp only [initL, lastL]
  repeat (go_big_quiet_step (fail))
  refine wpQuiet_nil ?_
  rintro _ ⟨nq, rfl⟩
  gi_wp2
  have h3 := (h2.drewN nq).setD 2 (.int .i64 (R.pending - (n - (R.su x : Int)))) { R with wr := wl, pending := R.pending - (n - (R.su x : Int)) } rfl rfl rfl rfl rfl rfl
  have t4 := (t3.drewN nq).setCell (p := ⟨d, 2, none⟩) (.inl h.sD) (.int .i64 (R.pending - (n - (R.su x : Int))))
  have hA4 : ((w3.drewN nq).setCell ⟨d, 2, none⟩ (.int .i64 (R.pending - (n - (R.su x : Int))))).heap[ab]? = _ := (heap_set_other (Ne.symm hdab)).trans hA3
  generalize (w3.drewN nq).setCell ⟨d, 2, none⟩ (.int .i64 (R.pending - (n - (R.su x : Int)))) = w4 at *
  clear h2 t3 hA3 m0 m2 m4 mf k0 k1 ma
  have hxn : x ∈ ({ R with wr := wl, pending := R.pending - (n - (R.su x : Int)) } : RD).names := hx
  obtain ⟨m0, -, m2, -, m4, -, -, -, -, mf⟩ := h3.cells
  obtain ⟨k0, k1, -⟩ := h3.fcells hxn
  dsimp only at m2 m4 k1
  rw [Hσ.out] at k0
  have ma := cell_of hA4 (i := 0) (v := .pointer (some ⟨φ x, 0, none⟩)) rfl
  have hnn : need n ≤ 16777217 := by unfold need; omega
  go_wp2_with fail
  refine wp_last (by kernel_rfl) (by kernel_rfl) ?_
  dsimp only [initL, lastL]
  repeat (go_big_quiet_step ((go_at_call 88; exact Calls.quiet_of_same (blocks_any (φ x) px n cx _ k0 (by omega)))))
  refine wpQuiet_nil ?_
  rintro _ ⟨nr, rfl⟩
  gi_wp2
  have h4 := (h3.drewN nr).setD 4 (.int .i64 (R.used - (need n : Nat))) { R with wr := wl, pending := R.pending - (n - (R.su x : Int)), used := R.used - (need n : Nat) } rfl rfl rfl rfl rfl rfl
  have t5 := (t4.drewN nr).setCell (p := ⟨d, 4, none⟩) (.inl h.sD) (.int .i64 (R.used - (need n : Nat)))
  generalize (w4.drewN nr).setCell ⟨d, 4, none⟩ (.int .i64 (R.used - (need n : Nat))) = w5 at *
  clear h3 t4 hA4 m0 m2 m4 mf k0 k1 ma
  obtain ⟨m0, -⟩ := h4.cells
  obtain ⟨w6, hrun, hm6, hg6⟩ := h4.map.drop (names' := without R.names x) hs (fun y => mem_without _ _ _) 0
  have h5 := h4.dropM (names' := without R.names x) hm6 hg6 (fun y hy => ((mem_without _ _ _).1 hy).1) hwm
  have t6 := t5.grown hg6 fun k hk => .inl (by cases hk; exact h.sM)
  go_wp2
  go_end0
  refine ⟨⟨_, rfl⟩, ⟨.slice pv wl.length cv, ?_⟩, t6⟩
  unfold RD.drop
  rw [Hwl.out, Hn.out]
  exact h5
end
def RD.cut (R : RD) (x : ByteArray) : RD := { R with bt := upd R.bt x ((R.bt x).take (R.su x)), used := R.used - ((need (R.bt x).length : Nat) - (need (R.su x) : Nat) : Int) }
theorem Owns.take {w : World} {B : Nat} {e : TypeId} {p : Option Addr} {n c k : Nat} {xs : List Int} (h : Owns w B e (.slice p n c) xs) (hk : k ≤ n) : Owns w B e (.slice p k c) (xs.take k) ∧ (Value.slice p k c).ownBlock = (Value.slice p n c).ownBlock := by
  have hn : n = xs.length := by
    rcases h.2 with ⟨e, h0⟩ | ⟨g, cap, cur, e, _⟩ <;> (simp only [Value.slice.injEq] at e; omega)
  subst hn
  have hl : (xs.take k).length = k := by rw [List.length_take]; omega
  rcases h.2 with ⟨e, h0⟩ | ⟨g, cap, cur, e, _⟩
  · simp only [Value.slice.injEq] at e
    obtain ⟨rfl, _, rfl⟩ := e
    obtain rfl : k = 0 := by omega
    obtain rfl : xs = [] := List.eq_nil_of_length_eq_zero h0
    exact ⟨h, rfl⟩
  · simp only [Value.slice.injEq] at e
    obtain ⟨rfl, _, rfl⟩ := e
    refine ⟨?_, rfl⟩
    have := row_take h hk
    unfold Owns
    rw [hl]
    rw [Nat.mul_one, show (cellsB xs).take k = cellsB (xs.take k) by simp [cellsB, List.map_take]] at this
    exact this
section
variable {w w' : World} {d : Nat} {S : Nat → Prop} {φ : ByteArray → Nat} {σ : ByteArray → Value} {mb : Nat} {vb : Value} {R : RD}
set_option maxRecDepth 10000 in
set_option maxHeartbeats 2000000 in
theorem cut_any (h : Lies8 w d S φ σ mb vb R) (hS : ∀ k, w.heap.size ≤ k → S k) {x : ByteArray} (hx : x ∈ R.names) (hb : (R.bt x).length ≤ 1073741824) (hsu : R.su x ≤ (R.bt x).length)
    (hu : -1099511627776 ≤ R.used ∧ R.used ≤ 1099511627776) :
    Calls Tryz.prog 130 #[.pointer (some ⟨d, 0, none⟩), .pointer (some ⟨φ x, 0, none⟩)] w fun e w' => (∃ v, e = .returned v) ∧ (∃ σ', Lies8 w' d S φ σ' mb vb (R.cut x)) ∧ Turn S w w' := by
  obtain ⟨-, -, -, -, c4, -, -, -, -, hf⟩ := h.cells
  obtain ⟨k0, k1, kf⟩ := h.fcells hx
  obtain ⟨px, cx, hσ⟩ := (h.row x hx).shape
  have ho := h.row x hx
  rw [hσ] at k0 ho
  have Hσ : Hid (σ x = .slice px (R.bt x).length cx) := hσ
  clear hσ
  have hnc : (R.bt x).length ≤ cx := by
    rcases ho.2 with ⟨e, h0⟩ | ⟨g, cap, cur, e, _, _, hc, _⟩
    · omega
    · simp only [Value.slice.injEq] at e; omega
  have hpx : px = none → cx = 0 := by
    intro e
    rcases ho.2 with ⟨e1, h0⟩ | ⟨g, cap, cur, e1, _⟩
    · simp only [Value.slice.injEq] at e1; exact e1.2.2
    · simp only [Value.slice.injEq] at e1; rw [e] at e1; cases e1.1
  have ht := ho.take hsu
  generalize hn : (R.bt x).length = n at *
  have Hn : Hid ((R.bt x).length = n) := hn
  clear hn
  generalize hsv : R.su x = s at *
  have Hs : Hid (R.su x = s) := hsv
  clear hsv
  have hnn : need n ≤ 16777217 := by unfold need; omega
  have hns : need s ≤ 16777217 := by unfold need; omega
  go_enter Tryz.func130, Tryz.ntmps130
  go_wp2_with fail
  refine wp_last (by kernel_rfl) (by kernel_rfl) ?_
  dsimp only [initL, lastL]
  repeat (go_big_quiet_step ((first | (go_at_call 88; exact Calls.quiet_of_same (blocks_any (φ x) px n cx _ k0 (by omega))) | (go_at_call 94; exact Calls.quiet_of_same (need_any s _ (by omega))))))
  refine wpQuiet_nil ?_
  rintro _ ⟨nr, rfl⟩
  gi_wp2
  have h2 := (h.drewN nr).setD 4 (.int .i64 (R.used - ((need n : Nat) - (need s : Nat)))) { R with used := R.used - ((need n : Nat) - (need s : Nat)) } rfl rfl rfl rfl rfl rfl
  have t2 := ((Turn.refl S w).drewN nr).setCell (p := ⟨d, 4, none⟩) (.inl h.sD) (.int .i64 (R.used - ((need n : Nat) - (need s : Nat))))
  have hsz2 : ((w.drewN nr).setCell ⟨d, 4, none⟩ (.int .i64 (R.used - ((need n : Nat) - (need s : Nat))))).heap.size = w.heap.size := by simp [World.setCell, World.drewN]
  generalize (w.drewN nr).setCell ⟨d, 4, none⟩ (.int .i64 (R.used - ((need n : Nat) - (need s : Nat)))) = w3 at *
  clear k0 k1 kf c4 hf
  obtain ⟨k0, k1, kf⟩ := h2.fcells hx
  dsimp only at k1
  rw [Hσ.out] at k0
  rw [Hs.out] at k1
  go_wp2_with fail
  cases px with
  | none =>
    obtain rfl := hpx rfl
    obtain rfl : n = 0 := by omega
    obtain rfl : s = 0 := by omega
    refine wp_last (by kernel_rfl) (by kernel_rfl) ?_
    dsimp only [initL, lastL]
    repeat (go_big_quiet_step (fail))
    refine wpQuiet_nil ?_
    rintro _ ⟨nq, rfl⟩
    gi_wp2
    go_end0
    have ho3 := (h2.drewN nq).row x hx
    rw [Hσ.out] at ho3
    have ht3 := ho3.take (k := 0) (by omega)
    have h3 := (h2.drewN nq).setR hx (v' := .slice none 0 0) (xs := (R.bt x).take 0) ⟨rfl, rfl, rfl, Nat.le_refl _, fun _ _ _ => rfl⟩ ht3.1 (.inl (by rw [Hσ.out])) (fun k hk => hS k (by have : (w3.drewN nq).heap.size = w3.heap.size := rfl; omega))
    refine ⟨⟨_, rfl⟩, ⟨upd σ x (.slice none 0 0), ?_⟩, (t2.drewN nq).setCell (p := ⟨φ x, 0, none⟩) (.inl (h.sF x hx)) _⟩
    unfold RD.cut
    rw [Hn.out, Hs.out]
    exact h3
  | some ad =>
    refine wp_last (by kernel_rfl) (by kernel_rfl) ?_
    dsimp only [initL, lastL]
    repeat (go_big_quiet_step (fail))
    refine wpQuiet_nil ?_
    rintro _ ⟨nq, rfl⟩
    gi_wp2
    go_end0
    have ho3 := (h2.drewN nq).row x hx
    rw [Hσ.out] at ho3
    have ht3 := ho3.take (k := s) (by omega)
    have h3 := (h2.drewN nq).setR hx (v' := .slice (some ad) s cx) (xs := (R.bt x).take s) ⟨rfl, rfl, rfl, Nat.le_refl _, fun _ _ _ => rfl⟩ ht3.1 (.inl (by rw [Hσ.out]; exact ht3.2)) (fun k hk => hS k (by have : (w3.drewN nq).heap.size = w3.heap.size := rfl; omega))
    refine ⟨⟨_, rfl⟩, ⟨upd σ x (.slice (some ad) s cx), ?_⟩, (t2.drewN nq).setCell (p := ⟨φ x, 0, none⟩) (.inl (h.sF x hx)) _⟩
    unfold RD.cut
    rw [Hn.out, Hs.out]
    exact h3
end
end Go.Proofs.YthlelcmifolnfaaGreatDoor
