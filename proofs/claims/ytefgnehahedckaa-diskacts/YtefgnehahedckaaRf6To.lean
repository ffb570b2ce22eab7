import Derived.Test.YtefgnehahedckaaRf4To
/-
  The document's own disk: what a store into its object leaves; Arm, Start, New.
-/
namespace Go.Proofs.Ytefgnehahedckaa
open Go.RowKit Go.Maps

section
variable {w : World} {r : Nat} {S : Nat → Prop} {vl vb : Value} {tl tb : List Tr} {blocks : Nat} {off : Bool} {ops : Nat} {n keep : Int}
theorem RefLies.apart (h : RefLies w r S vl vb tl tb blocks off ops n keep) : vl.ownBlock ≠ some r ∧ vb.ownBlock ≠ some r ∧ (∀ f ∈ tl, f.2.1.ownBlock ≠ some r) ∧ ∀ f ∈ tb, f.2.1.ownBlock ≠ some r :=
  ⟨row_apart h.rowL h.blk (by decide), row_apart h.rowB h.blk (by decide), fun f hf => row_apart (h.byL f hf).1 h.blk (by decide), fun f hf => row_apart (h.byB f hf).1 h.blk (by decide)⟩
/-- A store into the object. -/
theorem RefLies.setD (h : RefLies w r S vl vb tl tb blocks off ops n keep) (i : Nat) (u : Value) {blocks' : Nat} {off' : Bool} {ops' : Nat} {n' keep' : Int}
    (hc : (#[.int .i64 (blocks : Nat), vl, vb, .bool off, .int .i64 (ops : Nat), .int .i64 n, .int .i64 keep] : Array Value).setIfInBounds i u = #[.int .i64 (blocks' : Nat), vl, vb, .bool off', .int .i64 (ops' : Nat), .int .i64 n', .int .i64 keep']) :
    RefLies (w.setCell ⟨r, i, none⟩ u) r S vl vb tl tb blocks' off' ops' n' keep' := by
  obtain ⟨q1, q2, q3, q4⟩ := h.apart
  have hs : ∀ (v : Value), v.ownBlock ≠ some r → ∀ g, v.ownBlock = some g → (w.setCell ⟨r, i, none⟩ u).heap[g]? = w.heap[g]? := fun v hv g hg => Below.heap_setCell _ _ _ _ (fun e => hv (by rw [hg]; exact congrArg some e))
  refine ⟨?_, row_same h.rowL (hs _ q1), row_same h.rowB (hs _ q2), h.sR, h.sL, h.sB, fun f hf => ⟨row_same (h.byL f hf).1 (hs _ (q3 f hf)), (h.byL f hf).2⟩, fun f hf => ⟨row_same (h.byB f hf).1 (hs _ (q4 f hf)), (h.byB f hf).2⟩⟩
  rw [← hc]
  have hb := h.blk
  simp [World.setCell, Array.getElem?_modify, hb]
end
section
variable {w w' : World} {r : Nat} {S S' : Nat → Prop} {M : DM}
theorem RefAt.same (h : RefAt w r S M) (hs : ∀ k, k < w.heap.size → S k → w'.heap[k]? = w.heap[k]?) : RefAt w' r S M := by
  obtain ⟨vl, vb, tl, tb, n, h1, h2⟩ := h
  exact ⟨vl, vb, tl, tb, n, h1.same hs, h2⟩
theorem RefAt.below (h : RefAt w r S M) (hb : Below w.heap.size w w') : RefAt w' r S M := h.same fun k hk _ => hb.block k hk
theorem RefAt.mono (h : RefAt w r S M) (hS : ∀ k, k < w.heap.size → S k → S' k) : RefAt w r S' M := by
  obtain ⟨vl, vb, tl, tb, n, h1, h2⟩ := h
  exact ⟨vl, vb, tl, tb, n, h1.mono hS, h2⟩
set_option maxRecDepth 10000 in
theorem rarm_any (h : RefAt w r S M) (n k : Int) : Calls Try.prog 42 #[.pointer (some ⟨r, 0, none⟩), .int .i64 n, .int .i64 k] w fun e w' => e = .returned (.int .i64 ((M.arm n k).1 : Nat)) ∧ RefAt w' r S (M.arm n k).2 ∧ Turn S w w' := by
  obtain ⟨vl, vb, tl, tb, n0, h1, hL, hB, hn⟩ := h
  obtain ⟨-, -, -, c3, -, c5, c6⟩ := h1.cells
  have f5 := h1.free 5
  have f6 := h1.free 6
  cases hf : M.off with
  | true =>
    have e1 : M.arm n k = (9, M) := by unfold DM.arm; rw [if_pos hf]
    rw [e1]
    have hD : Hid (RefAt w r S M) := ⟨vl, vb, tl, tb, n0, h1, hL, hB, hn⟩
    rw [hf] at c3
    go_enter Try.func42, Try.ntmps42
    go_wp2
    go_ret
    exact ⟨rfl, hD.out, Turn.refl _ _⟩
  | false =>
    have e1 : M.arm n k = (0, { M with n := n.toNat, keep := k }) := by unfold DM.arm; rw [if_neg (by rw [hf]; decide)]
    rw [e1]
    have h2 := h1.setD 5 (.int .i64 n) (blocks' := M.blocks) (off' := M.off) (ops' := M.ops) (n' := n) (keep' := M.keep) rfl
    have h3 := h2.setD 6 (.int .i64 k) (blocks' := M.blocks) (off' := M.off) (ops' := M.ops) (n' := n) (keep' := k) rfl
    have t3 := ((Turn.refl S w).setCell (p := ⟨r, 5, none⟩) (.inl h1.sR) (.int .i64 n)).setCell (p := ⟨r, 6, none⟩) (.inl h1.sR) (.int .i64 k)
    have hD : Hid (RefAt ((w.setCell ⟨r, 5, none⟩ (.int .i64 n)).setCell ⟨r, 6, none⟩ (.int .i64 k)) r S { M with n := n.toNat, keep := k }) := ⟨vl, vb, tl, tb, n, h3, hL, hB, rfl⟩
    rw [hf] at c3
    clear h1 h2 h3
    go_enter Try.func42, Try.ntmps42
    go_wp2
    go_ret
    exact ⟨rfl, hD.out, t3⟩
set_option maxRecDepth 10000 in
theorem rstart_any (h : RefAt w r S M) : Calls Try.prog 44 #[.pointer (some ⟨r, 0, none⟩)] w fun e w' => (∃ v, e = .returned v) ∧ RefAt w' r S M.start ∧ Turn S w w' := by
  obtain ⟨vl, vb, tl, tb, n0, h1, hL, hB, hn⟩ := h
  obtain ⟨-, -, -, c3, -, c5, c6⟩ := h1.cells
  have f3 := h1.free 3
  have f5 := h1.free 5
  have h2 := h1.setD 3 (.bool false) (blocks' := M.blocks) (off' := false) (ops' := M.ops) (n' := n0) (keep' := M.keep) rfl
  have h3 := h2.setD 5 (.int .i64 0) (blocks' := M.blocks) (off' := false) (ops' := M.ops) (n' := 0) (keep' := M.keep) rfl
  have t3 := ((Turn.refl S w).setCell (p := ⟨r, 3, none⟩) (.inl h1.sR) (.bool false)).setCell (p := ⟨r, 5, none⟩) (.inl h1.sR) (.int .i64 0)
  have hD : Hid (RefAt ((w.setCell ⟨r, 3, none⟩ (.bool false)).setCell ⟨r, 5, none⟩ (.int .i64 0)) r S M.start) := ⟨vl, vb, tl, tb, 0, h3, hL, hB, rfl⟩
  clear h1 h2 h3
  go_enter Try.func44, Try.ntmps44
  go_wp2
  go_end0
  exact ⟨⟨_, rfl⟩, hD.out, t3⟩
end
end Go.Proofs.Ytefgnehahedckaa

/-
  The document's own disk: List.
-/
namespace Go.Proofs.Ytefgnehahedckaa
open Go.RowKit Go.Maps

theorem elemS8 : Elem8 Try.prog 36 9 1 16 := elem8 Try.underlying36 (z := .string ⟨#[]⟩) (by kernel_rfl) rfl (by decide)
theorem names_take {t : List Tr} {j : Nat} (h : j < t.length) : nms (trM (t.take (j + 1))) = nms (trM (t.take j)) ++ [(t.getD j default).1] := by
  rw [List.take_succ_eq_append_getElem h, List.getD_eq_getElem?_getD, List.getElem?_eq_getElem h]
  unfold nms trM
  rw [List.map_append, List.map_append]
  rfl
def OwnsT8 (w : World) (B : Nat) (v : Value) (xs : List ByteArray) : Prop := w.ownsRow B 9 1 v xs.length (textsV8 xs)
theorem OwnsT8.below {w w' : World} {B : Nat} {v : Value} {xs : List ByteArray} (h : OwnsT8 w B v xs) (hb : Below w.heap.size w w') : OwnsT8 w' B v xs := row_same h fun g hg => hb.block g (World.ownsRow.lt h g hg).2
theorem OwnsT8.shape {w : World} {B : Nat} {v : Value} {xs : List ByteArray} (h : OwnsT8 w B v xs) : ∃ p c, v = .slice p xs.length c := by
  rcases h.2 with ⟨rfl, hn⟩ | ⟨g, cap, cur, rfl, _⟩
  · exact ⟨none, 0, by rw [hn]⟩
  · exact ⟨_, _, rfl⟩
section
variable {w : World} {r : Nat} {S : Nat → Prop} {vl vb : Value} {tl tb : List Tr} {blocks : Nat} {off : Bool} {ops : Nat} {n keep : Int}
set_option maxRecDepth 10000 in
set_option maxHeartbeats 2000000 in
theorem rlist_on (h : RefLies w r S vl vb tl tb blocks false ops n keep) (hl : tl.length ≤ 16777216) :
    Calls Try.prog 47 #[.pointer (some ⟨r, 0, none⟩)] w fun e w' => (∃ v, e = .returned v ∧ OwnsT8 w' w.heap.size v (nms (trM tl))) ∧ Below w.heap.size w w' := by
  obtain ⟨-, c1, -, c3, -⟩ := h.cells
  have hlt := h.lt
  obtain ⟨p, c, rfl, hc⟩ := tr_shape h.rowL
  go_enter Try.func47, Try.ntmps47
  go_wp2
  go_loopw [11, 3] (fun t s wr => ∃ j : Nat, j ≤ tl.length ∧ t = .int .i64 (j : Nat) ∧ OwnsT8 wr w.heap.size s (nms (trM (tl.take j))) ∧ Below w.heap.size w wr) (fun t _ _ => tl.length - (intOf t).toNat)
  case atStart => exact ⟨0, by omega, rfl, World.ownsRow_nil _ _ _ _, Below.refl _ _⟩
  case round =>
    obtain ⟨j, hj, rfl, ho, hb⟩ := hrel
    by_cases hjl : j < tl.length
    · obtain ⟨g, c', e, _, hg, d0, d1⟩ := tr_at (h.below hb).rowL hjl
      simp only [Value.slice.injEq] at e
      obtain ⟨rfl, -, rfl⟩ := e
      obtain ⟨pu, cu, hu⟩ := (h.byL _ (getD_mem8 hjl)).1.shape
      rw [hu] at d1
      have hnt : Hid (nms (trM (tl.take (j + 1))) = nms (trM (tl.take j)) ++ [(tl.getD j default).1]) := names_take hjl
      have hnl : (nms (trM (tl.take j))).length = j := by simp [nms, trM]; omega
      have d3 := (hb.cell (p := ⟨r, 3, none⟩) hlt).trans c3
      have hr2 : r < wr.heap.size := Nat.lt_of_lt_of_le hlt hb.size
      generalize (tl.getD j default).2.2.length = lu at *
      generalize (tl.getD j default).1 = y at *
      clear hu c1 c3
      have hb2 := (hb.alloc hb.size (.cells #[.string y, .slice pu lu cu] 94)).alloc (Nat.le_trans hb.size (by simp)) (.cells #[.string y] 9)
      have hal := ((Below.refl wr.heap.size wr).alloc (Nat.le_refl _) (.cells #[.string y, .slice pu lu cu] 94)).alloc (by simp) (.cells #[.string y] 9)
      have ho2 := ho.below hal
      have hR := hasR_lit (w := (wr.alloc (.cells #[.string y, .slice pu lu cu] 94)).alloc (.cells #[.string y] 9)) (k := wr.heap.size + 1) (size := 1) (xs := [.string y]) (e := 9) (f := (0, 0)) (by
        show ((wr.heap.push _).push _)[wr.heap.size + 1]? = _
        rw [show wr.heap.size + 1 = (wr.heap.push (Obj.cells #[.string y, .slice pu lu cu] 94)).size from (Array.size_push _).symm, Array.getElem?_push_size]) 1 1 rfl (Nat.le_refl _)
      obtain ⟨po, co, rfl⟩ := ho.shape
      have h1 : (nms (trM (tl.take j))).length + 1 ≤ 1099511627776 := by omega
      have h2 : ((nms (trM (tl.take j))).length + 1) * 16 ≤ 140737488355328 := by omega
      clear ho hnl
      go_wp2_with (at_builtin; refine ap_row elemS8 _ rfl _ _ rfl w.heap.size _ _ (nms (trM (tl.take j))).length 1 (textsV8 (nms (trM (tl.take j)))) [.string y] rfl rfl hR (fun u hu => by rw [List.mem_singleton.1 hu]; rfl) ho2 h1 h2 hb2.size ?_; intro v2 w2 hown2 hgrow2 hwh2; refine Halt8.out ?_)
      have HB3 : Hid (Below w.heap.size w w2) := hb2.trans ((Below.refl _ _).grown hgrow2 hb2.size fun k hk => (World.ownsRow.lt ho2 k hk).1)
      have ho3 : OwnsT8 w2 w.heap.size v2 (nms (trM (tl.take (j + 1)))) := by
        unfold OwnsT8
        rw [hnt.out, List.length_append, show textsV8 (nms (trM (tl.take j)) ++ [y]) = textsV8 (nms (trM (tl.take j))) ++ [.string y] by simp [textsV8]]
        exact hown2
      have HO3 : Hid (OwnsT8 w2 w.heap.size v2 (nms (trM (tl.take (j + 1))))) := ho3
      obtain ⟨p3, c3, rfl⟩ := ho3.shape
      clear hgrow2 hwh2 hown2 hR ho2 ho3 hb2 hal
      constructor
      go_wp2
      go_roundw
      case rel => exact ⟨j + 1, by omega, by simp, HO3.out, HB3.out⟩
      case measure => simp only [intOf]; omega
    · obtain rfl : j = tl.length := by omega
      rw [List.take_length] at ho
      have HO : Hid (OwnsT8 wr w.heap.size _ (nms (trM tl))) := ho
      obtain ⟨po, co, rfl⟩ := ho.shape
      clear ho c1 c3
      go_wp2
      go_ret
      exact ⟨⟨_, rfl, HO.out⟩, hb⟩
set_option maxRecDepth 10000 in
set_option maxHeartbeats 2000000 in
theorem rlist_off (h : RefLies w r S vl vb tl tb blocks true ops n keep) (hl : tl.length ≤ 16777216) :
    Calls Try.prog 47 #[.pointer (some ⟨r, 0, none⟩)] w fun e w' => e = .returned (.slice none 0 0) ∧ Below w.heap.size w w' := by
  obtain ⟨-, c1, -, c3, -⟩ := h.cells
  have hlt := h.lt
  obtain ⟨p, c, rfl, hc⟩ := tr_shape h.rowL
  go_enter Try.func47, Try.ntmps47
  go_wp2
  go_loopw [11, 3] (fun t s wr => ∃ j : Nat, j ≤ tl.length ∧ t = .int .i64 (j : Nat) ∧ s = .slice none 0 0 ∧ Below w.heap.size w wr) (fun t _ _ => tl.length - (intOf t).toNat)
  case atStart => exact ⟨0, by omega, rfl, rfl, Below.refl _ _⟩
  case round =>
    obtain ⟨j, hj, rfl, rfl, hb⟩ := hrel
    by_cases hjl : j < tl.length
    · obtain ⟨g, c', e, _, hg, d0, d1⟩ := tr_at (h.below hb).rowL hjl
      simp only [Value.slice.injEq] at e
      obtain ⟨rfl, -, rfl⟩ := e
      obtain ⟨pu, cu, hu⟩ := (h.byL _ (getD_mem8 hjl)).1.shape
      rw [hu] at d1
      have d3 := (hb.cell (p := ⟨r, 3, none⟩) hlt).trans c3
      have hr2 : r < wr.heap.size := Nat.lt_of_lt_of_le hlt hb.size
      generalize (tl.getD j default).2.2.length = lu at *
      generalize (tl.getD j default).1 = y at *
      clear hu c1 c3
      go_wp2
      go_roundw
      case rel => exact ⟨j + 1, by omega, by simp, rfl, hb.alloc hb.size _⟩
      case measure => simp only [intOf]; omega
    · obtain rfl : j = tl.length := by omega
      clear c1 c3
      go_wp2
      go_ret
      exact ⟨rfl, hb⟩
end
end Go.Proofs.Ytefgnehahedckaa
