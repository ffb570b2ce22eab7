import Derived.Test.YthlghokgknkpaaaGreatDoorRaTo
import Derived.Great.BuildSlice
import Derived.Test.YthlghokgknkpaaaGreatDoorSwYTo
/-
  Contract: Map[string].Keys.
-/
namespace Go.Proofs.YthlghokgknkpaaaGreatDoor
open Go.RowKit Go.Shelf

def textsV (xs : List ByteArray) : List Value := xs.map Value.string

theorem one_run_s (a : Act) (s : ByteArray) (h : a.eval (.tmp 24) = .string s) (W : World) :
    (execOp a.eval { dst := some 25, op := Op.buildSlice 80 1 #[(0, Operand.tmp 24)], type := 80, pos := "swiss.go:108", after := #[{ on := 8, ground := Ground.data }], guard := none }).run Tryz.prog W = .ok (.value (.slice (some ⟨W.heap.size, 0, none⟩) 1 1)) (W.alloc (.cells #[.string s] 9)) := by
  obtain ⟨i1, hi1, hz1, hs1, hb1⟩ := info_parts infoT_s
  have hb : (Instr.buildSlice 80 1 #[(0, .string s)]).run Tryz.prog W = .ok (.slice (some ⟨W.heap.size, 0, none⟩) 1 1) (W.alloc (.cells #[.string s] 9)) := by
    refine run_buildSlice W _ _ 1 _ _ i1 _ Tryz.underlying80 hi1 hz1 (by rw [hs1]; omega) (by rw [hs1]; omega) ?_
    rw [hs1]
    exact Great.fill_flat [.string s] _ (fun v hv => by cases List.mem_singleton.1 hv; rfl) (by simp)
  unfold execOp
  simp only [List.map_toArray, List.map_cons, List.map_nil, h, Sem.run_bind, hb, Result.andThen_ok]
  rfl

set_option maxRecDepth 100000 in
set_option maxHeartbeats 4000000 in
theorem keys_any_s (b bw bs : Nat) (M : SM) (w : World) (hT : Tab w) (h : Lies 74 71 w b bw bs M) (hF : M.Fit) (hn : M.full.length = M.n) :
    Calls Tryz.prog 109 #[.pointer (some ⟨b, 0, none⟩)] w fun e w' => ∃ g, e = .returned (.slice (some ⟨g, 0, none⟩) M.n M.n) ∧ w.heap.size ≤ g ∧ w'.ownsRow 0 9 1 (.slice (some ⟨g, 0, none⟩) M.n M.n) M.n (textsV M.keys) ∧ Below w.heap.size w w' := by
  obtain ⟨cw, cs, c0, c1, c2, c3, c4, c5, hcw, hcs⟩ := h.cells
  have hr := good_range hF.good
  have hlt := h.lt
  have hfl := full_len hF
  obtain ⟨i1, hi1, hz1, hs1, hb1⟩ := info_parts infoT_s
  have hmk := fun W : World => run_make (P := Tryz.prog) W 80 9 i1 _ Tryz.underlying80 hi1 hz1 .i64 .i64 0 (M.n : Int) (by omega) (by omega) (by rw [hb1]; omega) (by omega)
  rw [hs1] at hmk
  simp only [show (0 : Int).toNat = 0 from rfl, Int.toNat_natCast, Nat.mul_one] at hmk
  have hmf : ∀ (fn : Fn) (first cap : Array Value) (w : World), (Instr.makeFunc fn first cap).run Tryz.prog w = .ok (.func fn first cap) w := fun _ _ _ _ => rfl
  have hA : (madeCells (Value.string ⟨#[]⟩).cells M.n).size = M.n := size_madeCells _ _
  generalize madeCells _ M.n = A0 at hmk hA
  refine (callsIn_wide (n := 9)).1 ?_
  refine callsIn_of_wp_marks Tryz.func109 rfl trivial ?_ rfl
  simp only [Tryz.ntmps109, List.size_toArray, List.length_cons, List.length_nil, Nat.reduceAdd, Nat.reduceSub, Array.replicate_succ, Array.replicate_zero, List.push_toArray, List.append_toArray, List.nil_append, List.cons_append]
  have q0 := Boxed.new w 28 (.pointer (some ⟨b, 0, none⟩))
  have hBq : Below w.heap.size w (w.alloc (.cells #[.pointer (some ⟨b, 0, none⟩)] 28)) := (Below.refl _ w).alloc (Nat.le_refl _) _
  have hzq : (w.alloc (.cells #[.pointer (some ⟨b, 0, none⟩)] 28)).heap.size = w.heap.size + 1 := by simp
  generalize hX0 : w.alloc (.cells #[.pointer (some ⟨b, 0, none⟩)] 28) = X0 at q0 hBq hzq
  have e0 := q0.cell
  have k2 := (hBq.cell (p := ⟨b, 2, none⟩) hlt.1).trans c2
  have k4 := (hBq.cell (p := ⟨b, 4, none⟩) hlt.1).trans c4
  have hmade := made_any_s b _ _ _ X0 k2
  rw [decide_eq_true (by omega : 0 < M.ws.length)] at hmade
  gi_wp2_with (refine ⟨trivial, ?_⟩; gi_at_call 34; refine (callsIn_wide.2 hmade).mono ?_; rintro e X0 ⟨rfl, rfl⟩)
  have hrow := World.ownsRow_made (e := 9) (size := 1) (base := 0) X0 A0 M.n (Nat.zero_le _) (by unfold maxLen; omega) (by rw [hA, Nat.mul_one])
  rw [hzq] at hrow
  have q1 := Boxed.new (X0.alloc (.cells A0 9)) 80 (.slice (some ⟨w.heap.size + 1, 0, none⟩) 0 M.n)
  rw [World.size_alloc, hzq] at q1
  have hrow2 := World.ownsRow.alloc hrow (.cells #[.slice (some ⟨w.heap.size + 1, 0, none⟩) 0 M.n] 80)
  replace q0 := (q0.alloc (.cells A0 9)).alloc (.cells #[.slice (some ⟨w.heap.size + 1, 0, none⟩) 0 M.n] 80)
  have hB2 : Below w.heap.size w ((X0.alloc (.cells A0 9)).alloc (.cells #[.slice (some ⟨w.heap.size + 1, 0, none⟩) 0 M.n] 80)) := (hBq.alloc (by omega) _).alloc (by simp; omega) _
  have hz2 : ((X0.alloc (.cells A0 9)).alloc (.cells #[.slice (some ⟨w.heap.size + 1, 0, none⟩) 0 M.n] 80)).heap.size = w.heap.size + 3 := by simp; omega
  clear hrow
  generalize (X0.alloc (.cells A0 9)).alloc (.cells #[.slice (some ⟨w.heap.size + 1, 0, none⟩) 0 M.n] 80) = X2 at *
  have hw0 := hT.1
  refine range_seqV (m := 7) (gf := 69) (fb := #[.pointer (some ⟨b, 0, none⟩)]) (lb := #[]) rfl (enters_of Tryz.func69 (by kernel_rfl) rfl)
    (full_seq_s b bw bs w.heap.size M X2 (hT.below hB2 hw0) (h.below hB2 (Nat.le_refl _)) hF hlt) (by omega) (fun _ => rfl)
    (fun B pre X => Boxed X w.heap.size 28 (.pointer (some ⟨b, 0, none⟩)) ∧ Boxed X (w.heap.size + 1 + 1) 80 (.slice (some ⟨w.heap.size + 1, 0, none⟩) pre.length M.n) ∧
      X.ownsRow 0 9 1 (.slice (some ⟨w.heap.size + 1, 0, none⟩) pre.length M.n) pre.length (textsV (pre.map fun p => (M.s p).1)) ∧ Below w.heap.size w X)
    (fun _ _ _ _ => False)
    ?hI ?hIx ?h0 ?ab ?done ?stop
  case hI =>
    rintro B pre X Y hB ⟨d0, d1, d2, d3⟩ ho
    have hg := (World.ownsRow.lt d2 (w.heap.size + 1) rfl).2
    refine ⟨ho.box d0 (.inl (by omega)), ho.box d1 (.inl (by omega)), ownsRow_block d2 ?_, d3.trans (ho.below (by omega) d3.size)⟩
    rw [ho.block (w.heap.size + 1) _ (Array.getElem?_eq_getElem hg) (.inl (by omega)), Array.getElem?_eq_getElem hg]
  case hIx => exact fun _ _ _ _ _ _ h _ => h
  case h0 =>
    intro X hX _
    exact ⟨(hX.block _ (by omega)).trans q0, (hX.block _ (by omega)).trans q1, ownsRow_block hrow2 (hX.block _ (by omega)), hB2.trans (hX.mono (by omega))⟩
  case stop => exact fun _ _ _ _ _ _ h _ => h.elim
  case ab =>
    apply Exists.intro
    constructor
    · intro l x X K hK
      have hsem := @Oper.semAt_some l
      gi_wp2
      exact hK
    · rintro l B pre p X hB hBX hpre ⟨d0, d1, d2, d3⟩
      have hsem := @Oper.semAt_some l
      have hpm : p ∈ M.full := hpre.subset (List.mem_append_right _ (List.mem_singleton.2 rfl))
      have hps := full_lt hF p hpm
      have hpl : pre.length + 1 ≤ M.n := by have := hpre.length_le; rw [List.length_append, List.length_singleton] at this; omega
      have hL := h.below d3 (Nat.le_refl _)
      obtain ⟨dw, ds, _, _, _, k3, _, _, _, hds⟩ := hL.cells
      have kk := hL.key p hps
      have hp1 : (p : Int) < M.ss.length := by omega
      have hXs := d3.size
      have hlt' := hL.lt
      have e0 := d0.cell
      have e1 := d1.cell
      obtain ⟨Y, hY0, hY1, hYb⟩ : ∃ Y : Nat → World, (∀ n, ∃ i, X.drewN n = Y i) ∧ (∀ n, ∃ i, (X.alloc (.cells #[.string (M.s p).1] 9)).drewN n = Y i) ∧ ∀ i, Below X.heap.size X (Y i) := by
        refine ⟨fun i => if i % 2 = 0 then X.drewN (i / 2) else (X.alloc (.cells #[.string (M.s p).1] 9)).drewN (i / 2), fun n => ⟨2 * n, ?_⟩, fun n => ⟨2 * n + 1, ?_⟩, fun i => ?_⟩
        · show _ = if 2 * n % 2 = 0 then X.drewN (2 * n / 2) else _
          rw [if_pos (by omega), show 2 * n / 2 = n by omega]
        · show _ = if (2 * n + 1) % 2 = 0 then _ else (X.alloc (.cells #[.string (M.s p).1] 9)).drewN ((2 * n + 1) / 2)
          rw [if_neg (by omega), show (2 * n + 1) / 2 = n by omega]
        · dsimp only
          split
          · exact ⟨rfl, rfl, rfl, Nat.le_refl _, fun _ _ => rfl⟩
          · have := (Below.refl X.heap.size X).alloc (Nat.le_refl _) (.cells #[.string (M.s p).1] 9)
            exact ⟨this.os, this.tape, this.output, this.size, this.block⟩
      have y0 := fun i => ((hYb i).cell (p := ⟨w.heap.size, 0, none⟩) (by show w.heap.size < _; omega)).trans e0
      have y1 := fun i => ((hYb i).cell (p := ⟨w.heap.size + 1 + 1, 0, none⟩) (by show w.heap.size + 1 + 1 < _; omega)).trans e1
      have y3 := fun i => ((hYb i).cell (p := ⟨b, 3, none⟩) hlt'.1).trans k3
      have yk := fun i => ((hYb i).cell (p := ⟨bs, p * 2, none⟩) hlt'.2.2).trans kk
      gi_wp2
      refine wpIn_tail (w1 := X.alloc (.cells #[.string (M.s p).1] 9)) (va := .slice (some ⟨X.heap.size, 0, none⟩) 1 1) (fun _ => trivial) 9 rfl (by kernel_rfl) (by kernel_rfl) Y hY0 hY1 ?_
      dsimp only [List.take]
      repeat (go_big_quiet_step (fail))
      refine wpQuiet_nil ⟨⟨by rfl, ?_⟩, ?_⟩
      · rintro _ ⟨nq, rfl⟩
        refine ⟨(X.alloc (.cells #[.string (M.s p).1] 9)).drewN nq, ?_, nq, rfl⟩
        exact one_run_s _ _ rfl _
      rintro _ ⟨nq, rfl⟩
      dsimp only [Act.put]
      have hXr : ((X.alloc (.cells #[.string (M.s p).1] 9)).drewN nq).ownsRow 0 9 1 (.slice (some ⟨w.heap.size + 1, 0, none⟩) pre.length M.n) pre.length (textsV (pre.map fun p => (M.s p).1)) := World.ownsRow.alloc d2 _
      have hXc : ((X.alloc (.cells #[.string (M.s p).1] 9)).drewN nq).cell? ⟨X.heap.size, 0, none⟩ = some (.string (M.s p).1) := (Boxed.new X 9 (.string (M.s p).1)).cell
      have hXb : Boxed ((X.alloc (.cells #[.string (M.s p).1] 9)).drewN nq) (w.heap.size + 1 + 1) 80 (.slice (some ⟨w.heap.size + 1, 0, none⟩) pre.length M.n) := d1.alloc _
      have hXb0 : Boxed ((X.alloc (.cells #[.string (M.s p).1] 9)).drewN nq) w.heap.size 28 (.pointer (some ⟨b, 0, none⟩)) := d0.alloc _
      have hXB : Below X.heap.size X ((X.alloc (.cells #[.string (M.s p).1] 9)).drewN nq) := by
        have := (Below.refl X.heap.size X).alloc (Nat.le_refl _) (.cells #[.string (M.s p).1] 9)
        exact ⟨this.os, this.tape, this.output, this.size, this.block⟩
      have hXz : ((X.alloc (.cells #[.string (M.s p).1] 9)).drewN nq).heap.size = X.heap.size + 1 := by simp
      generalize (X.alloc (.cells #[.string (M.s p).1] 9)).drewN nq = X1 at *
      refine wpListIn_append_fits X1 rfl (.tmp 16) (.tmp 25) 80 rfl 0 9 i1 1 Tryz.underlying80 hi1 hs1 (w.heap.size + 1) pre.length M.n _ rfl hXr ⟨X.heap.size, 0, none⟩ 1 1 [.string (M.s p).1] rfl rfl ?_ ?_ hpl ?_
      · intro j u hu
        cases j with
        | zero => cases hu; exact hXc
        | succ j => cases hu
      · intro u hu
        cases List.mem_singleton.1 hu
        rfl
      intro X3 hr3 hg3
      have hb3 : Boxed X3 (w.heap.size + 1 + 1) 80 (.slice (some ⟨w.heap.size + 1, 0, none⟩) pre.length M.n) := (hg3.block _ (by omega) (by simp)).trans hXb
      have hb0 : Boxed X3 w.heap.size 28 (.pointer (some ⟨b, 0, none⟩)) := (hg3.block _ (by omega) (by simp)).trans hXb0
      have e3 := hb3.cell
      have e4 := hb3.frozen
      have hX3z := hg3.size
      gi_wp2
      have hB3 : Below w.heap.size w X3 := d3.trans ((hXB.mono (by omega)).trans ⟨hg3.os, hg3.tape, hg3.output, hg3.size, fun k hk => hg3.block k (by omega) (by intro e; cases e; omega)⟩)
      have hK3 : ∀ A C, C ≤ X.heap.size → (w.heap.size + 1 < A ∨ C ≤ w.heap.size + 1) → Keeps A C X X3 := fun A C hC h' => (Keeps.of_below hXB hC).trans (Keeps.grown hg3 (by omega) (by intro k e; cases e; exact h'))
      refine ⟨(hK3 _ _ (by omega) (.inr (by omega))).setCell (.inr (by show w.heap.size ≤ w.heap.size + 1 + 1; omega)) _, (hK3 _ _ hBX (.inl (by omega))).setCell (.inl (by show w.heap.size + 1 + 1 < _; omega)) _, ?_, ?_, ?_, ?_⟩
      · exact (Below.heap_setCell _ _ _ _ (by show w.heap.size ≠ w.heap.size + 1 + 1; omega)).trans hb0
      · rw [List.length_append, List.length_singleton]
        exact hb3.set _
      · rw [List.length_append, List.length_singleton, List.map_append]
        unfold textsV at hr3 ⊢
        rw [List.map_append]
        exact ownsRow_block hr3 (Below.heap_setCell _ _ _ _ (by show w.heap.size + 1 ≠ w.heap.size + 1 + 1; omega))
      · exact hB3.setCell (by show w.heap.size ≤ w.heap.size + 1 + 1; omega) _
  case done =>
    rintro B X hB ⟨d0, d1, d2, d3⟩ hD
    have e1 := d1.cell
    rw [hn] at d1 d2 e1
    gi_wp2
    refine ⟨by simp, .inl ⟨_, _, rfl, run_takeDeferred hD, ?_⟩⟩
    refine ⟨_, results_tmp rfl _ _ _, w.heap.size + 1, rfl, by omega, ?_, d3.trans ((Outside.putObj (B := 0) _ (Nat.le_refl _) hD rfl).below (by omega) d3.size)⟩
    exact ownsRow_block d2 (World.putObj_heap_other (by omega))
end Go.Proofs.YthlghokgknkpaaaGreatDoor

/-
  Rows that the call made, read as rows; what one act does to a map.
-/
namespace Go.Proofs.YthlghokgknkpaaaGreatDoor
open Go.RowKit Go.Shelf

theorem hasT_owns {w : World} {B : Nat} {v : Value} {xs : List ByteArray} (h : w.ownsRow B 9 1 v xs.length (textsV xs)) : HasT w v xs := by
  rcases h.2 with ⟨rfl, hn⟩ | ⟨g, cap, cur, rfl, hB, hg, hnc, _, _, _⟩
  · exact ⟨none, 0, by rw [hn], by omega, fun _ => rfl, fun h0 => by omega⟩
  · refine ⟨some ⟨g, 0, none⟩, cap, rfl, hnc, (fun h0 => by cases h0), fun _ => ⟨g, 0, rfl, (Array.getElem?_eq_some_iff.1 hg).1, fun i hi => ?_⟩⟩
    have hc := World.ownsRow.cells h (g := g) rfl i (.string (xs.getD i ByteArray.empty)) (by simp [textsV, List.getElem?_eq_getElem hi])
    rw [Addr.add_lit] at hc
    exact hc
theorem hasW_owns {w : World} {B : Nat} {v : Value} {xs : List Nat} (h : w.ownsRow B 22 1 v xs.length (cellsW xs)) : HasW w v xs := by
  rcases h.2 with ⟨rfl, hn⟩ | ⟨g, cap, cur, rfl, hB, hg, hnc, _, _, _⟩
  · exact ⟨none, 0, by rw [hn], by omega, fun _ => rfl, fun h0 => by omega⟩
  · refine ⟨some ⟨g, 0, none⟩, cap, rfl, hnc, (fun h0 => by cases h0), fun _ => ⟨g, 0, rfl, (Array.getElem?_eq_some_iff.1 hg).1, fun i hi => ?_⟩⟩
    have hc := World.ownsRow.cells h (g := g) rfl i (.int .u64 ((xs.getD i 0 : Nat) : Int)) (by simp [cellsW, List.getElem?_eq_getElem hi])
    rw [Addr.add_lit] at hc
    exact hc

theorem isV_string (x : ByteArray) : IsV_s (.string x) := ⟨x, rfl⟩
theorem keys_len {M : SM} {K : Value → Prop} (h : M.Inv K) : M.keys.length = M.n := by
  unfold SM.keys
  rw [List.length_map, full_n h]
theorem keys_has {M : SM} {K : Value → Prop} (h : M.Inv K) {k : ByteArray} (hk : k ∈ M.keys) : (M.find k).isSome = true := by
  obtain ⟨p, hp, rfl⟩ := List.mem_map.1 hk
  obtain ⟨p1, p2⟩ := full_mem.1 hp
  rw [(find_is h).2 ⟨p1, p2, rfl⟩]
  rfl

/-- The act at place j of a row that came in. -/
theorem act_at {w wr : World} {p : Option Addr} {n c : Nat} {xs : List Act'} (hX : HasA w (.slice p n c) xs) (hb : Below w.heap.size w wr) {j : Nat} (hj : j < n) :
    ∃ bb oo, p = some ⟨bb, oo, none⟩ ∧ bb < w.heap.size ∧ n ≤ c ∧ wr.cell? ⟨bb, oo + j * 3, none⟩ = some (.int .i64 (xs.getD j default).kind) ∧ wr.cell? ⟨bb, oo + j * 3 + 1, none⟩ = some (.string (xs.getD j default).key) ∧ wr.cell? ⟨bb, oo + j * 3 + 2, none⟩ = some (.string (xs.getD j default).value) ∧
      (xs.getD j default).key.size ≤ 140737488351232 ∧ (xs.getD j default).value.size ≤ 140737488351232 := by
  obtain ⟨p', c', hpv, hcc, _, hcell⟩ := hX
  simp only [Value.slice.injEq] at hpv
  obtain ⟨rfl, hnn, rfl⟩ := hpv
  obtain ⟨bb, oo, rfl, hbb, hcell⟩ := hcell (by omega)
  obtain ⟨c1, c2, c3, z1, z2⟩ := hcell j (by omega)
  exact ⟨bb, oo, rfl, hbb, by omega, (hb.cell (p := ⟨bb, oo + j * 3, none⟩) hbb).trans c1, (hb.cell (p := ⟨bb, oo + j * 3 + 1, none⟩) hbb).trans c2, (hb.cell (p := ⟨bb, oo + j * 3 + 2, none⟩) hbb).trans c3, z1, z2⟩

/-- The text at place j of a row. -/
theorem text_at {w wr : World} {B : Nat} {p : Option Addr} {n c : Nat} {xs : List ByteArray} (hX : HasT w (.slice p n c) xs) (hb : Below B w wr) (hB : w.heap.size ≤ B) {j : Nat} (hj : j < n) :
    ∃ bb oo, p = some ⟨bb, oo, none⟩ ∧ n ≤ c ∧ j < xs.length ∧ wr.cell? ⟨bb, oo + j, none⟩ = some (.string (xs.getD j ByteArray.empty)) := by
  obtain ⟨p', c', hpv, hcc, _, hcell⟩ := hX
  simp only [Value.slice.injEq] at hpv
  obtain ⟨rfl, hnn, rfl⟩ := hpv
  obtain ⟨bb, oo, rfl, hbb, hcell⟩ := hcell (by omega)
  exact ⟨bb, oo, rfl, by omega, by omega, (hb.cell (p := ⟨bb, oo + j, none⟩) (by exact Nat.lt_of_lt_of_le hbb hB)).trans (hcell j (by omega))⟩

def OwnsT (w : World) (B : Nat) (v : Value) (xs : List ByteArray) : Prop := w.ownsRow B 9 1 v xs.length (textsV xs)
theorem OwnsT.below {w w' : World} {B B' : Nat} {v : Value} {xs : List ByteArray} (h : OwnsT w B v xs) (hb : Below B' w w') (hB : w.heap.size ≤ B') : OwnsT w' B v xs := by
  refine ⟨h.1, ?_⟩
  rcases h.2 with hn | ⟨g, cap, cur, rfl, hb1, hg, rest⟩
  · exact .inl hn
  · refine .inr ⟨g, cap, cur, rfl, hb1, ?_, rest⟩
    rw [hb.block g (Nat.lt_of_lt_of_le (Array.getElem?_eq_some_iff.1 hg).1 hB)]
    exact hg
/-- 'append(s, x)' of one text: it has just been laid in a block of its own. -/
theorem ap_word {ops : Array Oper} {rest : List Oper} {o : Oper} {a : Act} {Q : Exit → Act → World → Prop} (w : World) (hgd : o.guard = none) (s x : Operand)
    (ho : o.op = .call { callee := .builtin .append, args := #[s, x], argTypes := #[80, 80] })
    (B : Nat) (v : Value) (xs : List ByteArray) (z : ByteArray) (hs : a.eval s = v) (hx : a.eval x = .slice (some ⟨w.heap.size, 0, none⟩) 1 1) (hown : OwnsT w B v xs) (hlen : xs.length ≤ 1099511627776) (hB : B ≤ w.heap.size)
    (h : ∀ v' w', OwnsT w' B v' (xs ++ [z]) → Below B w w' → wpList Tryz.prog ops Q rest (a.put o.dst v') w') :
    wpList Tryz.prog ops Q (o :: rest) a (w.alloc (.cells #[.string z] 9)) := by
  obtain ⟨i, hi, hz, hsize, hby⟩ := info_parts infoT_s
  refine wpList_append_own _ hgd s x 80 ho B 9 i (.string ⟨#[]⟩) 1 16 Tryz.underlying80 hi hz hsize hby rfl (by decide) v xs.length (textsV xs) hs (World.ownsRow.alloc hown _) ⟨w.heap.size, 0, none⟩ 1 1 [.string z] hx rfl ?_ ?_ ?_ ?_ ?_ ?_
  · intro j u hj
    match j, hj with
    | 0, hj => simp at hj; subst hj; simp [Addr.add]
  · intro u hu; simp at hu; subst hu; rfl
  · unfold maxLen; omega
  · omega
  · simp; omega
  · intro v' w' hown' hgrow _
    refine h v' w' ?_ ?_
    · unfold OwnsT textsV
      rw [List.length_append, List.length_singleton, List.map_append]
      exact hown'
    · exact ((Below.refl B w).alloc hB _).trans ((Below.refl _ _).grown hgrow (by simp; omega) fun k hk => (World.ownsRow.lt hown k hk).1)

/-- The text that a map has for a key, or none. -/
def valK (M : SM) (k : ByteArray) : ByteArray :=
  match (M.get k (.string ⟨#[]⟩)).1 with
  | .string s => s
  | _ => ByteArray.empty
theorem get_val {M : SM} (h : M.Inv IsV_s) (k : ByteArray) : (M.get k (.string ⟨#[]⟩)).1 = .string (valK M k) := by
  unfold valK
  obtain ⟨s, hs⟩ : ∃ s, (M.get k (.string ⟨#[]⟩)).1 = .string s := by
    unfold SM.get
    split
    · exact ⟨_, rfl⟩
    · rename_i q hq
      obtain ⟨q1, _, _⟩ := (find_is h).1 hq
      exact h.typed q (by rw [h.fit.slots]; exact q1)
  rw [hs]
theorem get_has {M : SM} (h : M.Inv IsV_s) {k : ByteArray} (hk : k ∈ M.keys) : (M.get k (.string ⟨#[]⟩)).2 = true := by
  have := keys_has h hk
  unfold SM.get
  split
  · rename_i hq; rw [hq] at this; cases this
  · rfl
theorem keys_size {M : SM} {K : Value → Prop} (h : M.Inv K) {k : ByteArray} (hk : k ∈ M.keys) : k.size < 140737488355328 := by
  obtain ⟨p, hp, rfl⟩ := List.mem_map.1 hk
  obtain ⟨p1, p2⟩ := full_mem.1 hp
  exact h.fit.texts p (by rw [h.fit.slots]; exact p1)
theorem getD_mem {xs : List ByteArray} {j : Nat} (hj : j < xs.length) : xs.getD j ByteArray.empty ∈ xs := by
  rw [List.getD_eq_getElem?_getD, List.getElem?_eq_getElem hj]
  exact List.getElem_mem hj
theorem take_getD {xs : List ByteArray} {j : Nat} (hj : j < xs.length) : xs.take (j + 1) = xs.take j ++ [xs.getD j ByteArray.empty] := by
  rw [List.take_succ_eq_append_getElem hj]
  simp [List.getD_eq_getElem?_getD, List.getElem?_eq_getElem hj]

theorem HasT.but {w w' : World} {S : List Nat} {g n c : Nat} {xs : List ByteArray} (h : HasT w (.slice (some ⟨g, 0, none⟩) n c) xs) (hb : But S w w') (hS : g ∉ S) : HasT w' (.slice (some ⟨g, 0, none⟩) n c) xs := by
  obtain ⟨p, c', e, h1, h2, h3⟩ := h
  refine ⟨p, c', e, h1, h2, fun h0 => ?_⟩
  obtain ⟨b, o, rfl, hlt, hc⟩ := h3 h0
  cases e
  exact ⟨g, 0, rfl, Nat.lt_of_lt_of_le hlt hb.size, fun i hi => (World.cell?_of_block (a := ⟨g, 0 + i, none⟩) (hb.block g hlt hS)).trans (hc i hi)⟩
theorem HasW.but {w w' : World} {S : List Nat} {g n c : Nat} {xs : List Nat} (h : HasW w (.slice (some ⟨g, 0, none⟩) n c) xs) (hb : But S w w') (hS : g ∉ S) : HasW w' (.slice (some ⟨g, 0, none⟩) n c) xs := by
  obtain ⟨p, c', e, h1, h2, h3⟩ := h
  refine ⟨p, c', e, h1, h2, fun h0 => ?_⟩
  obtain ⟨b, o, rfl, hlt, hc⟩ := h3 h0
  cases e
  exact ⟨g, 0, rfl, Nat.lt_of_lt_of_le hlt hb.size, fun i hi => (World.cell?_of_block (a := ⟨g, 0 + i, none⟩) (hb.block g hlt hS)).trans (hc i hi)⟩
theorem OwnsT.but {w w' : World} {B : Nat} {v : Value} {xs : List ByteArray} {S : List Nat} (h : OwnsT w B v xs) (hb : But S w w') (hS : ∀ k ∈ S, k < B) : OwnsT w' B v xs := by
  refine ⟨h.1, ?_⟩
  rcases h.2 with hn | ⟨g, cap, cur, rfl, hb1, hg, rest⟩
  · exact .inl hn
  · refine .inr ⟨g, cap, cur, rfl, hb1, ?_, rest⟩
    rw [hb.block g (Array.getElem?_eq_some_iff.1 hg).1 (fun hm => by have := hS g hm; omega)]
    exact hg
theorem getD_map {xs : List ByteArray} {j : Nat} (hj : j < xs.length) (f : ByteArray → ByteArray) : (xs.map f).getD j ByteArray.empty = f (xs.getD j ByteArray.empty) := by
  simp [List.getD_eq_getElem?_getD, List.getElem?_eq_getElem hj]
end Go.Proofs.YthlghokgknkpaaaGreatDoor

/-
  Pairs in a list as what a map tells: the mathematics of SwissMaps.
-/
namespace Go.Proofs.YthlghokgknkpaaaGreatDoor
open Go.RowKit Go.Shelf

/-- A map tells just these pairs, each key once. -/
def Tells (M : SM) (ps : List (ByteArray × ByteArray)) : Prop := (ps.map Prod.fst).Nodup ∧ M.n = ps.length ∧ ∀ k v, M.Has k v ↔ ∃ s, v = .string s ∧ (k, s) ∈ ps
theorem fst_mem {ps : List (ByteArray × ByteArray)} {k : ByteArray} : k ∈ ps.map Prod.fst ↔ ∃ s, (k, s) ∈ ps := by
  constructor
  · intro h
    obtain ⟨⟨a, s⟩, h1, rfl⟩ := List.mem_map.1 h
    exact ⟨s, h1⟩
  · rintro ⟨s, h⟩
    exact List.mem_map.2 ⟨(k, s), h, rfl⟩
theorem tells_none (M : SM) (hn : M.n = 0) (h : ∀ k v, ¬ M.Has k v) : Tells M [] := ⟨List.nodup_nil, hn, fun k v => ⟨fun h' => absurd h' (h k v), by rintro ⟨s, _, h'⟩; cases h'⟩⟩
theorem tells_in {M : SM} {ps : List (ByteArray × ByteArray)} (hI : M.Inv IsV_s) (h : Tells M ps) {k : ByteArray} (hm : k ∈ ps.map Prod.fst) : (M.find k).isSome = true := by
  cases hf : M.find k with
  | none =>
    obtain ⟨s, hs⟩ := fst_mem.1 hm
    exact absurd ((h.2.2 k _).2 ⟨s, rfl, hs⟩) ((find_none_iff hI).1 hf (.string s))
  | some p => rfl
theorem tells_out {M : SM} {ps : List (ByteArray × ByteArray)} (hI : M.Inv IsV_s) (h : Tells M ps) {k : ByteArray} (hm : k ∉ ps.map Prod.fst) : (M.find k).isSome = false := by
  cases hf : M.find k with
  | none => rfl
  | some p =>
    obtain ⟨s, _, hs⟩ := (h.2.2 k _).1 ((has_find hI).2 ⟨p, hf, rfl⟩)
    exact absurd (fst_mem.2 ⟨s, hs⟩) hm
theorem tells_get {M : SM} {ps : List (ByteArray × ByteArray)} (hI : M.Inv IsV_s) (h : Tells M ps) {k s : ByteArray} (hm : (k, s) ∈ ps) : M.get k (.string ⟨#[]⟩) = (.string s, true) := by
  obtain ⟨p, hp, hv⟩ := (has_find hI).1 ((h.2.2 k (.string s)).2 ⟨s, rfl, hm⟩)
  unfold SM.get
  rw [hp]
  show ((M.s p).2, true) = _
  rw [hv]
theorem nodup_one : ∀ {ps : List (ByteArray × ByteArray)}, (ps.map Prod.fst).Nodup → ∀ {i j : Nat} {k a b : ByteArray}, ps[i]? = some (k, a) → ps[j]? = some (k, b) → i = j
  | [], _, i, _, _, _, _, h, _ => by simp at h
  | p :: r, h, i, j, k, a, b, h1, h2 => by
    rw [List.map_cons, List.nodup_cons] at h
    match i, j, h1, h2 with
    | 0, 0, _, _ => rfl
    | i' + 1, j' + 1, g1, g2 =>
      simp only [List.getElem?_cons_succ] at g1 g2
      rw [nodup_one h.2 g1 g2]
    | 0, j' + 1, g1, g2 =>
      simp only [List.getElem?_cons_succ, List.getElem?_cons_zero, Option.some.injEq] at g1 g2
      exact absurd (by rw [g1]; exact fst_mem.2 ⟨b, List.mem_of_getElem? g2⟩) h.1
    | i' + 1, 0, g1, g2 =>
      simp only [List.getElem?_cons_succ, List.getElem?_cons_zero, Option.some.injEq] at g1 g2
      exact absurd (by rw [g2]; exact fst_mem.2 ⟨a, List.mem_of_getElem? g1⟩) h.1
theorem mem_set_one {ps : List (ByteArray × ByteArray)} (hd : (ps.map Prod.fst).Nodup) {i : Nat} {key old v : ByteArray} (hi : ps[i]? = some (key, old)) (k s : ByteArray) : (k, s) ∈ ps.set i (key, v) ↔ (k = key ∧ s = v) ∨ (k ≠ key ∧ (k, s) ∈ ps) := by
  have hlt : i < ps.length := (List.getElem?_eq_some_iff.1 hi).1
  constructor
  · intro h
    obtain ⟨j, hj⟩ := List.getElem?_of_mem h
    rw [List.getElem?_set] at hj
    split at hj
    · simp only [Option.some.injEq, Prod.mk.injEq] at hj
      exact .inl ⟨hj.1.symm, hj.2.symm⟩
    · rename_i hne
      refine .inr ⟨?_, List.mem_of_getElem? hj⟩
      rintro rfl
      exact hne (nodup_one hd hi hj)
  · rintro (⟨rfl, rfl⟩ | ⟨hne, h⟩)
    · exact List.mem_of_getElem? (i := i) (by rw [List.getElem?_set, if_pos rfl, if_pos hlt])
    · obtain ⟨j, hj⟩ := List.getElem?_of_mem h
      refine List.mem_of_getElem? (i := j) ?_
      rw [List.getElem?_set, if_neg]
      · exact hj
      · rintro rfl
        rw [hi] at hj
        simp only [Option.some.injEq, Prod.mk.injEq] at hj
        exact hne hj.1.symm
theorem fst_set {ps : List (ByteArray × ByteArray)} {i : Nat} {key old v : ByteArray} (hi : ps[i]? = some (key, old)) : (ps.set i (key, v)).map Prod.fst = ps.map Prod.fst := by
  rw [List.map_set]
  apply List.ext_getElem?
  intro j
  rw [List.getElem?_set]
  split
  · rename_i e
    subst e
    have hlt : i < ps.length := (List.getElem?_eq_some_iff.1 hi).1
    rw [if_pos (by simpa using hlt), List.getElem?_map, hi]
    rfl
  · rfl
/-- What Put does to the pairs. -/
theorem tells_over {M : SM} {ps : List (ByteArray × ByteArray)} (hI : M.Inv IsV_s) (h : Tells M ps) {i : Nat} {key old v : ByteArray} (hi : ps[i]? = some (key, old)) (hk : key.size < 140737488355328) (hn : M.n < 2000) :
    (M.put key (.string v) (.string ⟨#[]⟩)).1 = true ∧ (M.put key (.string v) (.string ⟨#[]⟩)).2.1 = 0 ∧ (M.put key (.string v) (.string ⟨#[]⟩)).2.2.Inv IsV_s ∧ Tells (M.put key (.string v) (.string ⟨#[]⟩)).2.2 (ps.set i (key, v)) := by
  obtain ⟨i1, _, _, i4⟩ := inv_put hI (key := key) (v := .string v) (z := .string ⟨#[]⟩) (isV_string _) (isV_string _) hk
  obtain ⟨j1, j2, j3, j4⟩ := i4 hn
  have hf : (M.find key).isSome = true := tells_in hI h (fst_mem.2 ⟨old, List.mem_of_getElem? hi⟩)
  rw [hf] at j1 j3
  refine ⟨j1, j2, i1, by rw [fst_set hi]; exact h.1, by rw [j3, List.length_set]; exact h.2.1, fun k v' => ?_⟩
  rw [j4]
  constructor
  · rintro (⟨rfl, rfl⟩ | ⟨hne, hh⟩)
    · exact ⟨v, rfl, (mem_set_one h.1 hi _ _).2 (.inl ⟨rfl, rfl⟩)⟩
    · obtain ⟨s, rfl, hs⟩ := (h.2.2 _ _).1 hh
      exact ⟨s, rfl, (mem_set_one h.1 hi _ _).2 (.inr ⟨hne, hs⟩)⟩
  · rintro ⟨s, rfl, hs⟩
    rcases (mem_set_one h.1 hi _ _).1 hs with ⟨rfl, rfl⟩ | ⟨hne, hh⟩
    · exact .inl ⟨rfl, rfl⟩
    · exact .inr ⟨hne, (h.2.2 _ _).2 ⟨s, rfl, hh⟩⟩
theorem tells_more {M : SM} {ps : List (ByteArray × ByteArray)} (hI : M.Inv IsV_s) (h : Tells M ps) {key v : ByteArray} (hno : key ∉ ps.map Prod.fst) (hk : key.size < 140737488355328) (hn : M.n < 2000) :
    (M.put key (.string v) (.string ⟨#[]⟩)).1 = false ∧ (M.put key (.string v) (.string ⟨#[]⟩)).2.1 = 0 ∧ (M.put key (.string v) (.string ⟨#[]⟩)).2.2.Inv IsV_s ∧ Tells (M.put key (.string v) (.string ⟨#[]⟩)).2.2 (ps ++ [(key, v)]) := by
  obtain ⟨i1, _, _, i4⟩ := inv_put hI (key := key) (v := .string v) (z := .string ⟨#[]⟩) (isV_string _) (isV_string _) hk
  obtain ⟨j1, j2, j3, j4⟩ := i4 hn
  have hf : (M.find key).isSome = false := tells_out hI h hno
  rw [hf] at j1 j3
  refine ⟨j1, j2, i1, ?_, by rw [j3, List.length_append, List.length_singleton]; simp [h.2.1], fun k v' => ?_⟩
  · rw [List.map_append, List.nodup_append]
    refine ⟨h.1, by simp, fun a ha b hb => ?_⟩
    simp only [List.map_cons, List.map_nil, List.mem_singleton] at hb
    subst hb
    rintro rfl
    exact hno ha
  · rw [j4]
    constructor
    · rintro (⟨rfl, rfl⟩ | ⟨hne, hh⟩)
      · exact ⟨v, rfl, by simp⟩
      · obtain ⟨s, rfl, hs⟩ := (h.2.2 _ _).1 hh
        exact ⟨s, rfl, List.mem_append_left _ hs⟩
    · rintro ⟨s, rfl, hs⟩
      rcases List.mem_append.1 hs with hs | hs
      · exact .inr ⟨fun e => hno (e ▸ fst_mem.2 ⟨s, hs⟩), (h.2.2 _ _).2 ⟨s, rfl, hs⟩⟩
      · simp only [List.mem_singleton, Prod.mk.injEq] at hs
        exact .inl ⟨hs.1, by rw [hs.2]⟩
/-- What Delete does to the pairs. -/
theorem mem_erase_one {ps : List (ByteArray × ByteArray)} (hd : (ps.map Prod.fst).Nodup) {i : Nat} {key old : ByteArray} (hi : ps[i]? = some (key, old)) (k s : ByteArray) : (k, s) ∈ ps.take i ++ ps.drop (i + 1) ↔ k ≠ key ∧ (k, s) ∈ ps := by
  constructor
  · intro h
    refine ⟨?_, ?_⟩
    · rintro rfl
      rcases List.mem_append.1 h with h | h
      · obtain ⟨j, hj⟩ := List.getElem?_of_mem h
        have hj' := (List.getElem?_eq_some_iff.1 hj).1
        rw [List.length_take] at hj'
        rw [List.getElem?_take, if_pos (by omega)] at hj
        have := nodup_one hd hi hj
        omega
      · obtain ⟨j, hj⟩ := List.getElem?_of_mem h
        rw [List.getElem?_drop] at hj
        have := nodup_one hd hi hj
        omega
    · rcases List.mem_append.1 h with h | h
      · exact List.mem_of_mem_take h
      · exact List.mem_of_mem_drop h
  · rintro ⟨hne, h⟩
    obtain ⟨j, hj⟩ := List.getElem?_of_mem h
    rcases Nat.lt_trichotomy j i with hl | rfl | hl
    · exact List.mem_append_left _ (List.mem_of_getElem? (i := j) (by rw [List.getElem?_take, if_pos hl]; exact hj))
    · rw [hi] at hj
      simp only [Option.some.injEq, Prod.mk.injEq] at hj
      exact absurd hj.1.symm hne
    · exact List.mem_append_right _ (List.mem_of_getElem? (i := j - (i + 1)) (by rw [List.getElem?_drop, show i + 1 + (j - (i + 1)) = j by omega]; exact hj))
theorem tells_gone {M : SM} {ps : List (ByteArray × ByteArray)} (hI : M.Inv IsV_s) (h : Tells M ps) {i : Nat} {key old : ByteArray} (hi : ps[i]? = some (key, old)) :
    (M.del key (.string ⟨#[]⟩)).1 = true ∧ (M.del key (.string ⟨#[]⟩)).2.Inv IsV_s ∧ Tells (M.del key (.string ⟨#[]⟩)).2 (ps.take i ++ ps.drop (i + 1)) := by
  obtain ⟨i1, _, _, _, j1, j2, j4⟩ := inv_del hI (key := key) (z := .string ⟨#[]⟩) (isV_string _)
  have hf : (M.find key).isSome = true := tells_in hI h (fst_mem.2 ⟨old, List.mem_of_getElem? hi⟩)
  have hlt : i < ps.length := (List.getElem?_eq_some_iff.1 hi).1
  rw [hf] at j1 j2
  refine ⟨j1, i1, ?_, ?_, fun k v' => ?_⟩
  · have := h.1.sublist (l₁ := (ps.take i ++ ps.drop (i + 1)).map Prod.fst) ?_
    · exact this
    · refine List.Sublist.map _ ?_
      rw [← List.eraseIdx_eq_take_drop_succ]
      exact List.eraseIdx_sublist _ _
  · rw [List.length_append, List.length_take, List.length_drop]
    have := h.2.1
    simp only [if_true] at j2
    omega
  · rw [j4]
    constructor
    · rintro ⟨hne, hh⟩
      obtain ⟨s, rfl, hs⟩ := (h.2.2 _ _).1 hh
      exact ⟨s, rfl, (mem_erase_one h.1 hi _ _).2 ⟨hne, hs⟩⟩
    · rintro ⟨s, rfl, hs⟩
      obtain ⟨hne, hh⟩ := (mem_erase_one h.1 hi _ _).1 hs
      exact ⟨hne, (h.2.2 _ _).2 ⟨s, rfl, hh⟩⟩
theorem tells_keep {M : SM} {ps : List (ByteArray × ByteArray)} (hI : M.Inv IsV_s) (h : Tells M ps) {key : ByteArray} (hno : key ∉ ps.map Prod.fst) :
    (M.del key (.string ⟨#[]⟩)).1 = false ∧ (M.del key (.string ⟨#[]⟩)).2.Inv IsV_s ∧ Tells (M.del key (.string ⟨#[]⟩)).2 ps := by
  obtain ⟨i1, _, _, _, j1, j2, j4⟩ := inv_del hI (key := key) (z := .string ⟨#[]⟩) (isV_string _)
  have hf : (M.find key).isSome = false := tells_out hI h hno
  rw [hf] at j1 j2
  refine ⟨j1, i1, h.1, by have := h.2.1; simp at j2; omega, fun k v' => ?_⟩
  rw [j4, h.2.2]
  constructor
  · exact fun h' => h'.2
  · rintro ⟨s, rfl, hs⟩
    exact ⟨fun e => hno (e ▸ fst_mem.2 ⟨s, hs⟩), s, rfl, hs⟩
end Go.Proofs.YthlghokgknkpaaaGreatDoor
