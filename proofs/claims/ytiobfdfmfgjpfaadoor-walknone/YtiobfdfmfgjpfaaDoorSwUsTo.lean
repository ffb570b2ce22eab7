import Derived.Test.YtiobfdfmfgjpfaaDoorSwB2To
import Derived.Test.YtiobfdfmfgjpfaaDoorSwIsTo
import Derived.Test.YtiobfdfmfgjpfaaDoorSwXTo
/-
  Rows that a call made, and nil slices. No program is named here.
-/
namespace Go.Proofs.YtiobfdfmfgjpfaaDoor
open Go.RowKit Go.Shelf

theorem row_some {w : World} {B : Nat} {e : TypeId} {size n : Nat} {v : Value} {xs : List Value} (h : w.ownsRow B e size v n xs) (hn : 0 < n) : ∃ g cap, v = .slice (some ⟨g, 0, none⟩) n cap ∧ B ≤ g := by
  rcases h.2 with ⟨_, h0⟩ | ⟨g, cap, cur, rfl, hB, _⟩
  · omega
  · exact ⟨g, cap, rfl, hB⟩
theorem equal_slice_nil {P : Program} (d : Nat) (t e : TypeId) (a : Addr) (n c : Nat) (W : World) (h : P.underlying t = some (.slice e)) : (Op.equalIn (d + 1) t (.slice (some a) n c) (.slice none 0 0)).run P W = .ok false W := by
  simp [Op.equalIn, run_underlying h]
theorem row_mono {w : World} {B B' : Nat} {e : TypeId} {size n : Nat} {v : Value} {xs : List Value} (h : w.ownsRow B e size v n xs) (hB : B' ≤ B) : w.ownsRow B' e size v n xs := by
  refine ⟨h.1, ?_⟩
  rcases h.2 with hn | ⟨g, cap, cur, rfl, hb1, rest⟩
  · exact .inl hn
  · exact .inr ⟨g, cap, cur, rfl, Nat.le_trans hB hb1, rest⟩
theorem row_below {w w' : World} {B C : Nat} {e : TypeId} {size n : Nat} {v : Value} {xs : List Value} (h : w.ownsRow B e size v n xs) (hb : Below C w w') (hC : w.heap.size ≤ C) : w'.ownsRow B e size v n xs := by
  refine ⟨h.1, ?_⟩
  rcases h.2 with hn | ⟨g, cap, cur, rfl, hb1, hg, rest⟩
  · exact .inl hn
  · refine .inr ⟨g, cap, cur, rfl, hb1, ?_, rest⟩
    rw [hb.block g (Nat.lt_of_lt_of_le (Array.getElem?_eq_some_iff.1 hg).1 hC)]
    exact hg
theorem row_cells {w : World} {B g n cap size : Nat} {e : TypeId} {xs : List Value} (h : w.ownsRow B e size (.slice (some ⟨g, 0, none⟩) n cap) n xs) : ∀ j u, xs[j]? = some u → w.cell? ((⟨g, 0, none⟩ : Addr).add j) = some u := World.ownsRow.cells h rfl
theorem cellsW_one (ws : List Nat) : ∀ u ∈ cellsW ws, u.oneCell' = true := fun u hu => by
  obtain ⟨n, _, rfl⟩ := List.mem_map.1 hu
  rfl
end Go.Proofs.YtiobfdfmfgjpfaaDoor

/-
  Contracts: slices.Clone of words; Map[string].Controls.
-/
namespace Go.Proofs.YtiobfdfmfgjpfaaDoor
open Go.RowKit Go.Shelf
end Go.Proofs.YtiobfdfmfgjpfaaDoor

/-
  Contract: Map[string].Keys of a map without keys.
-/
namespace Go.Proofs.YtiobfdfmfgjpfaaDoor
open Go.RowKit Go.Shelf

theorem infoT_s : (Tryd.prog.info? 9).map (fun i => (i.zero, i.size, i.bytes)) = some (some (.string ⟨#[]⟩), 1, 16) := by kernel_rfl

set_option maxRecDepth 100000 in
set_option maxHeartbeats 4000000 in
theorem keys_empty_s (b bw bs : Nat) (M : SM) (w : World) (hT : Tab w) (h : Lies 81 77 w b bw bs M) (hF : M.Fit) (hn : M.n = 0) (hfull : M.full = []) :
    Calls Tryd.prog 20 #[.pointer (some ⟨b, 0, none⟩)] w fun e w' => ∃ g, e = .returned (.slice (some ⟨g, 0, none⟩) 0 0) ∧ Below w.heap.size w w' := by
  obtain ⟨cw, cs, c0, c1, c2, c3, c4, c5, hcw, hcs⟩ := h.cells
  rw [hn] at c4
  have hr := good_range hF.good
  have hlt := h.lt
  obtain ⟨i1, hi1, hz1, hs1, hb1⟩ := info_parts infoT_s
  have hmk := fun W : World => run_make (P := Tryd.prog) W 47 9 i1 _ Tryd.underlying47 hi1 hz1 .i64 .i64 0 0 (by omega) (by omega) (by rw [hb1]; omega) (by omega)
  simp only [show (0 : Int).toNat = 0 from rfl, Nat.zero_mul] at hmk
  have hmf : ∀ (fn : Fn) (first cap : Array Value) (w : World), (Instr.makeFunc fn first cap).run Tryd.prog w = .ok (.func fn first cap) w := fun _ _ _ _ => rfl
  generalize madeCells _ 0 = A0 at hmk
  clear hi1 hz1 hs1 hb1 i1
  refine (callsIn_wide (n := 9)).1 ?_
  refine callsIn_of_wp_marks Tryd.func20 rfl trivial ?_ rfl
  simp only [Tryd.ntmps20, List.size_toArray, List.length_cons, List.length_nil, Nat.reduceAdd, Nat.reduceSub, Array.replicate_succ, Array.replicate_zero, List.push_toArray, List.append_toArray, List.nil_append, List.cons_append]
  have q0 := Boxed.new w 26 (.pointer (some ⟨b, 0, none⟩))
  have hBq : Below w.heap.size w (w.alloc (.cells #[.pointer (some ⟨b, 0, none⟩)] 26)) := (Below.refl _ w).alloc (Nat.le_refl _) _
  have hzq : (w.alloc (.cells #[.pointer (some ⟨b, 0, none⟩)] 26)).heap.size = w.heap.size + 1 := by simp
  generalize hX0 : w.alloc (.cells #[.pointer (some ⟨b, 0, none⟩)] 26) = X0 at q0 hBq hzq
  have e0 := q0.cell
  have k2 := (hBq.cell (p := ⟨b, 2, none⟩) hlt.1).trans c2
  have k4 := (hBq.cell (p := ⟨b, 4, none⟩) hlt.1).trans c4
  have hmade := made_any_s b _ _ _ X0 k2
  rw [decide_eq_true (by omega : 0 < M.ws.length)] at hmade
  gi_wp2_with (refine ⟨trivial, ?_⟩; gi_at_call 33; refine (callsIn_wide.2 hmade).mono ?_; rintro e X0 ⟨rfl, rfl⟩)
  have q1 := Boxed.new (X0.alloc (.cells A0 9)) 47 (.slice (some ⟨w.heap.size + 1, 0, none⟩) 0 0)
  rw [World.size_alloc, hzq] at q1
  have hB2 : Below w.heap.size w ((X0.alloc (.cells A0 9)).alloc (.cells #[.slice (some ⟨w.heap.size + 1, 0, none⟩) 0 0] 47)) := (hBq.alloc (by omega) _).alloc (by simp; omega) _
  have hz2 : ((X0.alloc (.cells A0 9)).alloc (.cells #[.slice (some ⟨w.heap.size + 1, 0, none⟩) 0 0] 47)).heap.size = w.heap.size + 3 := by simp; omega
  generalize (X0.alloc (.cells A0 9)).alloc (.cells #[.slice (some ⟨w.heap.size + 1, 0, none⟩) 0 0] 47) = X2 at *
  have hw0 := hT.1
  refine range_seqV (m := 7) (gf := 46) (fb := #[.pointer (some ⟨b, 0, none⟩)]) (lb := #[]) rfl (enters_of Tryd.func46 (by kernel_rfl) rfl)
    (full_seq_s b bw bs w.heap.size M X2 (hT.below hB2 hw0) (h.below hB2 (Nat.le_refl _)) hF hlt) (by omega) (fun _ => rfl)
    (fun B pre X => Boxed X (w.heap.size + 1 + 1) 47 (.slice (some ⟨w.heap.size + 1, 0, none⟩) 0 0) ∧ Below w.heap.size w X)
    (fun _ _ _ _ => False)
    ?hI ?hIx ?h0 ?ab ?done ?stop
  case hI =>
    rintro B pre X Y hB ⟨d0, d1⟩ ho
    exact ⟨ho.box d0 (.inl (by omega)), d1.trans (ho.below (by omega) d1.size)⟩
  case hIx => exact fun _ _ _ _ _ _ h _ => h
  case h0 =>
    intro X hX _
    exact ⟨(hX.block _ (by omega)).trans q1, hB2.trans (hX.mono (by omega))⟩
  case stop => exact fun _ _ _ _ _ _ h _ => h.elim
  case ab =>
    apply Exists.intro
    constructor
    · intro l x X K hK
      have hsem := @Oper.semAt_some l
      gi_wp2
      exact hK
    · rintro l B pre p X hB hBX hpre _
      rw [hfull] at hpre
      have := hpre.length_le
      simp at this
  case done =>
    rintro B X hB ⟨d0, d1⟩ hD
    have e1 := d0.cell
    gi_wp2
    refine ⟨by simp, .inl ⟨_, _, rfl, run_takeDeferred hD, ?_⟩⟩
    exact ⟨_, results_tmp rfl _ _ _, _, rfl, d1.trans ((Outside.putObj (B := 0) _ (Nat.le_refl _) hD rfl).below (by omega) d1.size)⟩
end Go.Proofs.YtiobfdfmfgjpfaaDoor
