/-
  Contracts: slices.Clone of words and of slots; Map[int].Controls, Copy.
-/
import Derived.Test.YtkjnifipepiahaaDoorSwIi
namespace Go.Proofs.YtkjnifipepiahaaDoor
open Go.RowKit Go.Shelf

theorem row_some {w : World} {B : Nat} {e : TypeId} {size n : Nat} {v : Value} {xs : List Value} (h : w.ownsRow B e size v n xs) (hn : 0 < n) : ∃ g cap, v = .slice (some ⟨g, 0, none⟩) n cap ∧ B ≤ g := by
  rcases h.2 with ⟨_, h0⟩ | ⟨g, cap, cur, rfl, hB, _⟩
  · omega
  · exact ⟨g, cap, rfl, hB⟩

theorem equal_slice_nil {P : Program} (d : Nat) (t e : TypeId) (a : Addr) (n c : Nat) (W : World) (h : P.underlying t = some (.slice e)) : (Op.equalIn (d + 1) t (.slice (some a) n c) (.slice none 0 0)).run P W = .ok false W := by
  simp [Op.equalIn, run_underlying h]
theorem sliceW_nil_i (a : Addr) (n c : Nat) (W : World) : (binOp .eql 48 (.slice (some a) n c) (.slice none 0 0)).run Tryd.prog W = .ok (.bool false) W := by
  simp [binOp, go_sem]
  show ((Op.equalIn (9999 + 1) 48 (.slice (some a) n c) (.slice none 0 0)).run Tryd.prog W).andThen _ = _
  rw [equal_slice_nil 9999 _ _ a n c W Tryd.underlying48]
  rfl
theorem sliceS_nil_i (a : Addr) (n c : Nat) (W : World) : (binOp .eql 58 (.slice (some a) n c) (.slice none 0 0)).run Tryd.prog W = .ok (.bool false) W := by
  simp [binOp, go_sem]
  show ((Op.equalIn (9999 + 1) 58 (.slice (some a) n c) (.slice none 0 0)).run Tryd.prog W).andThen _ = _
  rw [equal_slice_nil 9999 _ _ a n c W Tryd.underlying58]
  rfl
theorem row_mono {w : World} {B B' : Nat} {e : TypeId} {size n : Nat} {v : Value} {xs : List Value} (h : w.ownsRow B e size v n xs) (hB : B' ≤ B) : w.ownsRow B' e size v n xs := by
  refine ⟨h.1, ?_⟩
  rcases h.2 with hn | ⟨g, cap, cur, rfl, hb1, rest⟩
  · exact .inl hn
  · exact .inr ⟨g, cap, cur, rfl, Nat.le_trans hB hb1, rest⟩
theorem row_below {w w' : World} {B C : Nat} {e : TypeId} {size n : Nat} {v : Value} {xs : List Value} (h : w.ownsRow B e size v n xs) (hb : Below C w w') (hC : w.heap.size ≤ C) : w'.ownsRow B e size v n xs := by
  refine ⟨h.1, ?_⟩
  rcases h.2 with hn | ⟨g, cap, cur, rfl, hb1, hg, rest⟩
  · exact .inl hn
  · refine .inr ⟨g, cap, cur, rfl, hb1, ?_, rest⟩
    rw [hb.block g (Nat.lt_of_lt_of_le (Array.getElem?_eq_some_iff.1 hg).1 hC)]
    exact hg
theorem row_cells {w : World} {B g n cap size : Nat} {e : TypeId} {xs : List Value} (h : w.ownsRow B e size (.slice (some ⟨g, 0, none⟩) n cap) n xs) : ∀ j u, xs[j]? = some u → w.cell? ((⟨g, 0, none⟩ : Addr).add j) = some u := World.ownsRow.cells h rfl
theorem cellsW_one (ws : List Nat) : ∀ u ∈ cellsW ws, u.oneCell' = true := fun u hu => by
  obtain ⟨n, _, rfl⟩ := List.mem_map.1 hu
  rfl
theorem cellsS_one_i : ∀ (ss : List (ByteArray × Value)), (∀ s ∈ ss, IsV_i s.2) → ∀ u ∈ cellsS ss, u.oneCell' = true
  | [], _, _, h => by cases h
  | s :: r, hv, u, h => by
    rcases List.mem_cons.1 h with rfl | h
    · rfl
    · rcases List.mem_cons.1 h with rfl | h
      · obtain ⟨x, hx⟩ := hv s List.mem_cons_self
        rw [hx]; rfl
      · exact cellsS_one_i r (fun s hs => hv s (List.mem_cons_of_mem _ hs)) u h

set_option maxRecDepth 10000 in
set_option maxHeartbeats 1000000 in
theorem cloneW_i (bw n cw : Nat) (ws : List Nat) (w : World) (hown : w.ownsRow 0 22 1 (.slice (some ⟨bw, 0, none⟩) n cw) n (cellsW ws)) (hn : 0 < n) (hn2 : n ≤ 100000) :
    Calls Tryd.prog 61 #[.slice (some ⟨bw, 0, none⟩) n cw] w fun e w' => ∃ g cap, e = .returned (.slice (some ⟨g, 0, none⟩) n cap) ∧ w.heap.size ≤ g ∧ w'.ownsRow 0 22 1 (.slice (some ⟨g, 0, none⟩) n cap) n (cellsW ws) ∧ Below w.heap.size w w' := by
  obtain ⟨i1, hi1, hz1, hs1, hb1⟩ := info_parts infoW_i
  have hlen := hown.1
  have he := World.ownsRow_made (e := 22) (size := 1) (base := w.heap.size) w #[] 0 (Nat.le_refl _) (Nat.zero_le _) rfl
  have hcells := row_cells (World.ownsRow.alloc hown (.cells #[] 22))
  have h1 := cellsW_one ws
  have hnil := sliceW_nil_i
  have hb : Below w.heap.size w (w.alloc (.cells #[] 22)) := (Below.refl _ _).alloc (Nat.le_refl _) _
  go_enter Tryd.func61, Tryd.ntmps61
  go_wp2_with (at_builtin; refine wpList_append_own _ rfl (.tmp 5) (.tmp 6) 48 rfl w.heap.size 22 i1 (.int .u64 0) 1 8 Tryd.underlying48 hi1 hz1 hs1 hb1 rfl (by decide) _ 0 [] rfl he ⟨bw, 0, none⟩ n cw (cellsW ws) rfl hlen hcells h1 (by unfold maxLen; omega) (by omega) (by simp) ?_; intro v' w' hown' hgrow _)
  rw [Nat.zero_add, List.nil_append] at hown'
  obtain ⟨g, cap, rfl, hg⟩ := row_some hown' hn
  go_ret
  refine ⟨g, cap, rfl, hg, row_mono hown' (Nat.zero_le _), hb.trans ((Below.refl _ _).grown hgrow (by simp) fun k hk => ?_)⟩
  exact (World.ownsRow.lt he k hk).1

set_option maxRecDepth 10000 in
set_option maxHeartbeats 1000000 in
theorem cloneS_i (bw n cw : Nat) (ss : List (ByteArray × Value)) (w : World) (hown : w.ownsRow 0 93 2 (.slice (some ⟨bw, 0, none⟩) n cw) n (cellsS ss)) (hn : 0 < n) (hn2 : n ≤ 100000) (hv : ∀ s ∈ ss, IsV_i s.2) :
    Calls Tryd.prog 71 #[.slice (some ⟨bw, 0, none⟩) n cw] w fun e w' => ∃ g cap, e = .returned (.slice (some ⟨g, 0, none⟩) n cap) ∧ w.heap.size ≤ g ∧ w'.ownsRow 0 93 2 (.slice (some ⟨g, 0, none⟩) n cap) n (cellsS ss) ∧ Below w.heap.size w w' := by
  obtain ⟨i1, hi1, hz1, hs1, hb1⟩ := info_parts infoS_i
  have hlen := hown.1
  have he := World.ownsRow_made (e := 93) (size := 2) (base := w.heap.size) w #[] 0 (Nat.le_refl _) (Nat.zero_le _) rfl
  have hcells := row_cells (World.ownsRow.alloc hown (.cells #[] 93))
  have h1 := cellsS_one_i ss hv
  have hnil := sliceS_nil_i
  have hb : Below w.heap.size w (w.alloc (.cells #[] 93)) := (Below.refl _ _).alloc (Nat.le_refl _) _
  go_enter Tryd.func71, Tryd.ntmps71
  go_wp2_with (at_builtin; refine wpList_append_own _ rfl (.tmp 5) (.tmp 6) 58 rfl w.heap.size 93 i1 (.agg #[.string ⟨#[]⟩, (.int .i64 0)]) 2 24 Tryd.underlying58 hi1 hz1 hs1 hb1 rfl (by decide) _ 0 [] rfl he ⟨bw, 0, none⟩ n cw (cellsS ss) rfl hlen hcells h1 (by unfold maxLen; omega) (by omega) (by simp) ?_; intro v' w' hown' hgrow _)
  rw [Nat.zero_add, List.nil_append] at hown'
  obtain ⟨g, cap, rfl, hg⟩ := row_some hown' hn
  go_ret
  refine ⟨g, cap, rfl, hg, row_mono hown' (Nat.zero_le _), hb.trans ((Below.refl _ _).grown hgrow (by simp) fun k hk => ?_)⟩
  exact (World.ownsRow.lt he k hk).1

set_option maxHeartbeats 1000000 in
theorem controls_any_i (b bw bs : Nat) (M : SM) (w : World) (h : Lies 60 93 w b bw bs M) (hF : M.Fit) :
    Calls Tryd.prog 36 #[.pointer (some ⟨b, 0, none⟩)] w fun e w' => ∃ g cap, e = .returned (.slice (some ⟨g, 0, none⟩) M.ws.length cap) ∧ w.heap.size ≤ g ∧ w'.ownsRow 0 22 1 (.slice (some ⟨g, 0, none⟩) M.ws.length cap) M.ws.length (cellsW M.ws) ∧ Below w.heap.size w w' := by
  have hr := good_range hF.good
  obtain ⟨cw, cs, r1, r2, r3⟩ := h.row
  have c2 : w.cell? ⟨b, 2, none⟩ = some (.slice (some ⟨bw, 0, none⟩) M.ws.length cw) := by simp [World.cell?, r1]
  have hmade := made_any_i b _ _ _ w c2
  rw [decide_eq_true (by omega : 0 < M.ws.length)] at hmade
  have hcl := cloneW_i bw M.ws.length cw M.ws w r2 (by omega) (by omega)
  clear r1 r2 r3
  go_enter Tryd.func36, Tryd.ntmps36
  go_wp2_with (go_at_call 66; refine hmade.mono ?_; rintro e w ⟨rfl, rfl⟩)
  refine hcl.mono ?_
  rintro e w1 ⟨g, cap, rfl, hg, ho, hb⟩
  go_wp2
  go_ret
  exact ⟨g, cap, rfl, hg, ho, hb⟩

set_option maxRecDepth 10000 in
set_option maxHeartbeats 2000000 in
theorem copy_any_i (b bw bs : Nat) (M : SM) (w : World) (h : Lies 60 93 w b bw bs M) (hF : M.Fit) (hV : M.Typed IsV_i) :
    Calls Tryd.prog 38 #[.pointer (some ⟨b, 0, none⟩)] w fun e w' => ∃ b' bw' bs', e = .returned (.pointer (some ⟨b', 0, none⟩)) ∧ Lies 60 93 w' b' bw' bs' M ∧ w.heap.size ≤ b' ∧ w.heap.size ≤ bw' ∧ w.heap.size ≤ bs' ∧ Below w.heap.size w w' := by
  have hr := good_range hF.good
  have hs8 := hF.slots
  have hlt := h.lt
  obtain ⟨cw, cs, r1, r2, r3⟩ := h.row
  obtain ⟨c0, c1, c2, c3, c4, c5⟩ : w.cell? ⟨b, 0, none⟩ = some (.int .u64 M.k0) ∧ w.cell? ⟨b, 1, none⟩ = some (.int .u64 M.k1) ∧ w.cell? ⟨b, 2, none⟩ = some (.slice (some ⟨bw, 0, none⟩) M.ws.length cw) ∧ w.cell? ⟨b, 3, none⟩ = some (.slice (some ⟨bs, 0, none⟩) M.ss.length cs) ∧ w.cell? ⟨b, 4, none⟩ = some (.int .i64 (M.n : Int)) ∧ w.cell? ⟨b, 5, none⟩ = some (.int .i64 (M.t : Int)) := by
    refine ⟨?_, ?_, ?_, ?_, ?_, ?_⟩ <;> simp [World.cell?, r1]
  have hmade := made_any_i b _ _ _ w c2
  rw [decide_eq_true (by omega : 0 < M.ws.length)] at hmade
  have hv : ∀ s ∈ M.ss, IsV_i s.2 := fun s hs => by
    obtain ⟨p, hp, rfl⟩ := List.getElem_of_mem hs
    have := hV p hp
    unfold SM.s at this
    rwa [List.getD_eq_getElem?_getD, List.getElem?_eq_getElem hp] at this
  have hnew := heap_alloc_new w (.cells #[.int .u64 M.k0, .int .u64 M.k1, .slice (some ⟨bw, 0, none⟩) M.ws.length cw, .slice (some ⟨bs, 0, none⟩) M.ss.length cs, .int .i64 (M.n : Int), .int .i64 (M.t : Int)] 60)
  have hb0 : Below w.heap.size w (w.alloc (.cells #[.int .u64 M.k0, .int .u64 M.k1, .slice (some ⟨bw, 0, none⟩) M.ws.length cw, .slice (some ⟨bs, 0, none⟩) M.ss.length cs, .int .i64 (M.n : Int), .int .i64 (M.t : Int)] 60)) := (Below.refl _ _).alloc (Nat.le_refl _) _
  have hz0 : (w.alloc (.cells #[.int .u64 M.k0, .int .u64 M.k1, .slice (some ⟨bw, 0, none⟩) M.ws.length cw, .slice (some ⟨bs, 0, none⟩) M.ss.length cs, .int .i64 (M.n : Int), .int .i64 (M.t : Int)] 60)).heap.size = w.heap.size + 1 := by simp
  generalize hX0 : w.alloc (.cells #[.int .u64 M.k0, .int .u64 M.k1, .slice (some ⟨bw, 0, none⟩) M.ws.length cw, .slice (some ⟨bs, 0, none⟩) M.ss.length cs, .int .i64 (M.n : Int), .int .i64 (M.t : Int)] 60) = X0 at hnew hb0 hz0
  have k2 := (hb0.cell (p := ⟨b, 2, none⟩) hlt.1).trans c2
  have hclW := cloneW_i bw M.ws.length cw M.ws X0 (row_below r2 hb0 (Nat.le_refl _)) (by omega) (by omega)
  have hS8 : Hid (M.ss.length = 8 * M.ws.length) := hs8
  have hss : 0 < M.ss.length ∧ M.ss.length ≤ 100000 := by omega
  clear hs8
  go_enter Tryd.func38, Tryd.ntmps38
  go_wp2_with (go_at_call 66; refine hmade.mono ?_; rintro e w ⟨rfl, rfl⟩)
  refine hclW.mono ?_
  rintro e W1 ⟨g1, cap1, rfl, hg1, ho1, hb1⟩
  have hz1 := hb1.size
  have hn1 := (hb1.block w.heap.size (by omega)).trans hnew
  have hB1 : Below w.heap.size w W1 := hb0.trans (hb1.mono (by omega))
  have k3 := (hB1.cell (p := ⟨b, 3, none⟩) hlt.1).trans c3
  have d2 : W1.cell? ⟨w.heap.size, 2, none⟩ = some (.slice (some ⟨bw, 0, none⟩) M.ws.length cw) := by simp [World.cell?, hn1]
  have f2 : W1.frozen? ⟨w.heap.size, 2, none⟩ = false := by simp [World.frozen?, hn1]
  have hn2 : (W1.setCell ⟨w.heap.size, 2, none⟩ (.slice (some ⟨g1, 0, none⟩) M.ws.length cap1)).heap[w.heap.size]? = some (.cells #[.int .u64 M.k0, .int .u64 M.k1, .slice (some ⟨g1, 0, none⟩) M.ws.length cap1, .slice (some ⟨bs, 0, none⟩) M.ss.length cs, .int .i64 (M.n : Int), .int .i64 (M.t : Int)] 60 (0, 0)) := by
    simp [World.setCell, Array.getElem?_modify, hn1]
  have hB2 : Below w.heap.size w (W1.setCell ⟨w.heap.size, 2, none⟩ (.slice (some ⟨g1, 0, none⟩) M.ws.length cap1)) := hB1.setCell (p := ⟨w.heap.size, 2, none⟩) (Nat.le_refl _) _
  have ho2 := ownsRow_block ho1 (Below.heap_setCell W1 ⟨w.heap.size, 2, none⟩ (.slice (some ⟨g1, 0, none⟩) M.ws.length cap1) g1 (by show g1 ≠ w.heap.size; omega))
  have hnb : b ≠ w.heap.size := by omega
  clear hmade c0 c1 c2 c4 c5 k2 hclW hnew hb0 hX0 hb1 ho1
  go_wp2_with fail
  clear d2 f2 hn1 k3
  generalize W1.setCell ⟨w.heap.size, 2, none⟩ (.slice (some ⟨g1, 0, none⟩) M.ws.length cap1) = X2 at *
  have hz2 := hB2.size
  have hlt2 : w.heap.size < X2.heap.size := (Array.getElem?_eq_some_iff.1 hn2).1
  have hg1x : g1 < X2.heap.size := (World.ownsRow.lt ho2 g1 rfl).2
  refine (cloneS_i bs M.ss.length cs M.ss X2 (row_below r3 hB2 (Nat.le_refl _)) hss.1 hss.2 hv).mono ?_
  rintro e W3 ⟨g2, cap2, rfl, hg2, ho3, hb3⟩
  have hn3 := (hb3.block w.heap.size hlt2).trans hn2
  have ho4 := ownsRow_block ho2 (hb3.block g1 hg1x)
  have d3 : W3.cell? ⟨w.heap.size, 3, none⟩ = some (.slice (some ⟨bs, 0, none⟩) M.ss.length cs) := by simp [World.cell?, hn3]
  have f3 : W3.frozen? ⟨w.heap.size, 3, none⟩ = false := by simp [World.frozen?, hn3]
  go_wp2
  go_ret
  refine ⟨w.heap.size, g1, g2, rfl, ⟨⟨cap1, cap2, ?_, ownsRow_block ho4 (Below.heap_setCell _ _ _ _ (by show g1 ≠ w.heap.size; omega)), ownsRow_block ho3 (Below.heap_setCell _ _ _ _ (by show g2 ≠ w.heap.size; omega))⟩, ?_, ?_⟩, Nat.le_refl _, by omega, by omega, ?_⟩
  · simp [World.setCell, Array.getElem?_modify, hn3]
  · omega
  · have := h.pos; omega
  · exact (hB2.trans (hb3.mono hz2)).setCell (p := ⟨w.heap.size, 3, none⟩) (Nat.le_refl _) _
end Go.Proofs.YtkjnifipepiahaaDoor
