/-
  Contracts: slices.Clone of words; Map[int].Controls.
-/
import Derived.Test.YtkjnifipepiahaaDoorSwIi
import Derived.Test.YtkjnifipepiahaaDoorSwB3
namespace Go.Proofs.YtkjnifipepiahaaDoor
open Go.RowKit Go.Shelf

theorem sliceW_nil_i (a : Addr) (n c : Nat) (W : World) : (binOp .eql 48 (.slice (some a) n c) (.slice none 0 0)).run Tryd.prog W = .ok (.bool false) W := by
  simp [binOp, go_sem]
  show ((Op.equalIn (9999 + 1) 48 (.slice (some a) n c) (.slice none 0 0)).run Tryd.prog W).andThen _ = _
  rw [equal_slice_nil 9999 _ _ a n c W Tryd.underlying48]
  rfl
set_option maxRecDepth 10000 in
set_option maxHeartbeats 1000000 in
theorem cloneW_i (bw n cw : Nat) (ws : List Nat) (w : World) (hown : w.ownsRow 0 22 1 (.slice (some ⟨bw, 0, none⟩) n cw) n (cellsW ws)) (hn : 0 < n) (hn2 : n ≤ 100000) :
    Calls Tryd.prog 61 #[.slice (some ⟨bw, 0, none⟩) n cw] w fun e w' => ∃ g cap, e = .returned (.slice (some ⟨g, 0, none⟩) n cap) ∧ w.heap.size ≤ g ∧ w'.ownsRow 0 22 1 (.slice (some ⟨g, 0, none⟩) n cap) n (cellsW ws) ∧ Below w.heap.size w w' := by
  obtain ⟨i1, hi1, hz1, hs1, hb1⟩ := info_parts infoW_i
  have hlen := hown.1
  have he := World.ownsRow_made (e := 22) (size := 1) (base := w.heap.size) w #[] 0 (Nat.le_refl _) (Nat.zero_le _) rfl
  have hcells := row_cells (World.ownsRow.alloc hown (.cells #[] 22))
  have h1 := cellsW_one ws
  have hnil := sliceW_nil_i
  have hb : Below w.heap.size w (w.alloc (.cells #[] 22)) := (Below.refl _ _).alloc (Nat.le_refl _) _
  go_enter Tryd.func61, Tryd.ntmps61
  go_wp2_with (at_builtin; refine wpList_append_own _ rfl (.tmp 5) (.tmp 6) 48 rfl w.heap.size 22 i1 (.int .u64 0) 1 8 Tryd.underlying48 hi1 hz1 hs1 hb1 rfl (by decide) _ 0 [] rfl he ⟨bw, 0, none⟩ n cw (cellsW ws) rfl hlen hcells h1 (by unfold maxLen; omega) (by omega) (by simp) ?_; intro v' w' hown' hgrow _)
  rw [Nat.zero_add, List.nil_append] at hown'
  obtain ⟨g, cap, rfl, hg⟩ := row_some hown' hn
  go_ret
  refine ⟨g, cap, rfl, hg, row_mono hown' (Nat.zero_le _), hb.trans ((Below.refl _ _).grown hgrow (by simp) fun k hk => ?_)⟩
  exact (World.ownsRow.lt he k hk).1

set_option maxHeartbeats 1000000 in
theorem controls_any_i (b bw bs : Nat) (M : SM) (w : World) (h : Lies 60 93 w b bw bs M) (hF : M.Fit) :
    Calls Tryd.prog 36 #[.pointer (some ⟨b, 0, none⟩)] w fun e w' => ∃ g cap, e = .returned (.slice (some ⟨g, 0, none⟩) M.ws.length cap) ∧ w.heap.size ≤ g ∧ w'.ownsRow 0 22 1 (.slice (some ⟨g, 0, none⟩) M.ws.length cap) M.ws.length (cellsW M.ws) ∧ Below w.heap.size w w' := by
  have hr := good_range hF.good
  obtain ⟨cw, cs, r1, r2, r3⟩ := h.row
  have c2 : w.cell? ⟨b, 2, none⟩ = some (.slice (some ⟨bw, 0, none⟩) M.ws.length cw) := by simp [World.cell?, r1]
  have hmade := made_any_i b _ _ _ w c2
  rw [decide_eq_true (by omega : 0 < M.ws.length)] at hmade
  have hcl := cloneW_i bw M.ws.length cw M.ws w r2 (by omega) (by omega)
  clear r1 r2 r3
  go_enter Tryd.func36, Tryd.ntmps36
  go_wp2_with (go_at_call 66; refine hmade.mono ?_; rintro e w ⟨rfl, rfl⟩)
  refine hcl.mono ?_
  rintro e w1 ⟨g, cap, rfl, hg, ho, hb⟩
  go_wp2
  go_ret
  exact ⟨g, cap, rfl, hg, ho, hb⟩
end Go.Proofs.YtkjnifipepiahaaDoor
