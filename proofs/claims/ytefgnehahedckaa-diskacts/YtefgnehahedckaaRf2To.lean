import Derived.Test.YtefgnehahedckaaDt1To
/-
  The document's own disk (corbelref08) in memory; contracts: New, find, needs, Pending.
-/
namespace Go.Proofs.Ytefgnehahedckaa
open Go.RowKit Go.Maps

/-- A file or a write: its name, its slice, its bytes. -/
abbrev Tr := ByteArray × Value × List Int
instance : Inhabited Tr := ⟨(ByteArray.empty, undef, [])⟩
def trs : List Tr → List Value
  | [] => []
  | f :: r => .string f.1 :: f.2.1 :: trs r
def trM (t : List Tr) : List (ByteArray × List Int) := t.map fun f => (f.1, f.2.2)
theorem trs_length : ∀ t : List Tr, (trs t).length = t.length * 2
  | [] => rfl
  | f :: r => by rw [trs, List.length_cons, List.length_cons, trs_length r, List.length_cons]; omega
theorem trs_append (s t : List Tr) : trs (s ++ t) = trs s ++ trs t := by
  induction s with
  | nil => rfl
  | cons f r ih => rw [List.cons_append, trs, trs, ih]; rfl
theorem trs_at : ∀ {t : List Tr} {i : Nat}, i < t.length → (trs t)[i * 2]? = some (.string (t.getD i default).1) ∧ (trs t)[i * 2 + 1]? = some (t.getD i default).2.1
  | [], i, h => by simp at h
  | f :: r, 0, _ => ⟨rfl, rfl⟩
  | f :: r, i + 1, h => by
    have := trs_at (t := r) (i := i) (by simpa using h)
    rw [show (i + 1) * 2 = i * 2 + 1 + 1 by omega, trs]
    simpa using this
/-- The document's disk lies in block r; it and all that it holds in blocks of S. -/
structure RefLies (w : World) (r : Nat) (S : Nat → Prop) (vl vb : Value) (tl tb : List Tr) (blocks : Nat) (off : Bool) (ops : Nat) (n keep : Int) : Prop where
  blk : w.heap[r]? = some (.cells #[.int .i64 (blocks : Nat), vl, vb, .bool off, .int .i64 (ops : Nat), .int .i64 n, .int .i64 keep] 64 (0, 0))
  rowL : w.ownsRow 0 94 2 vl tl.length (trs tl)
  rowB : w.ownsRow 0 96 2 vb tb.length (trs tb)
  sR : S r
  sL : ∀ g, vl.ownBlock = some g → S g
  sB : ∀ g, vb.ownBlock = some g → S g
  byL : ∀ f ∈ tl, Owns w 0 5 f.2.1 f.2.2 ∧ ∀ g, f.2.1.ownBlock = some g → S g
  byB : ∀ f ∈ tb, Owns w 0 5 f.2.1 f.2.2 ∧ ∀ g, f.2.1.ownBlock = some g → S g
section
variable {w w' : World} {r : Nat} {S S' : Nat → Prop} {vl vb : Value} {tl tb : List Tr} {blocks : Nat} {off : Bool} {ops : Nat} {n keep : Int}
theorem RefLies.lt (h : RefLies w r S vl vb tl tb blocks off ops n keep) : r < w.heap.size := (Array.getElem?_eq_some_iff.1 h.blk).1
theorem RefLies.cells (h : RefLies w r S vl vb tl tb blocks off ops n keep) : w.cell? ⟨r, 0, none⟩ = some (.int .i64 (blocks : Nat)) ∧ w.cell? ⟨r, 1, none⟩ = some vl ∧ w.cell? ⟨r, 2, none⟩ = some vb ∧ w.cell? ⟨r, 3, none⟩ = some (.bool off) ∧ w.cell? ⟨r, 4, none⟩ = some (.int .i64 (ops : Nat)) ∧ w.cell? ⟨r, 5, none⟩ = some (.int .i64 n) ∧ w.cell? ⟨r, 6, none⟩ = some (.int .i64 keep) := by
  have hb := h.blk
  refine ⟨?_, ?_, ?_, ?_, ?_, ?_, ?_⟩ <;> simp [World.cell?, hb]
theorem RefLies.free (h : RefLies w r S vl vb tl tb blocks off ops n keep) (i : Nat) : w.frozen? ⟨r, i, none⟩ = false := by simp [World.frozen?, h.blk]
/-- It stays while its blocks do. -/
theorem RefLies.same (h : RefLies w r S vl vb tl tb blocks off ops n keep) (hs : ∀ k, k < w.heap.size → S k → w'.heap[k]? = w.heap[k]?) : RefLies w' r S vl vb tl tb blocks off ops n keep :=
  ⟨(hs r h.lt h.sR).trans h.blk, row_same h.rowL fun g hg => hs g (World.ownsRow.lt h.rowL g hg).2 (h.sL g hg), row_same h.rowB fun g hg => hs g (World.ownsRow.lt h.rowB g hg).2 (h.sB g hg), h.sR, h.sL, h.sB,
    fun f hf => ⟨row_same (h.byL f hf).1 fun g hg => hs g (World.ownsRow.lt (h.byL f hf).1 g hg).2 ((h.byL f hf).2 g hg), (h.byL f hf).2⟩,
    fun f hf => ⟨row_same (h.byB f hf).1 fun g hg => hs g (World.ownsRow.lt (h.byB f hf).1 g hg).2 ((h.byB f hf).2 g hg), (h.byB f hf).2⟩⟩
theorem RefLies.below (h : RefLies w r S vl vb tl tb blocks off ops n keep) (hb : Below w.heap.size w w') : RefLies w' r S vl vb tl tb blocks off ops n keep := h.same fun k hk _ => hb.block k hk
theorem RefLies.mono (h : RefLies w r S vl vb tl tb blocks off ops n keep) (hS : ∀ k, k < w.heap.size → S k → S' k) : RefLies w r S' vl vb tl tb blocks off ops n keep :=
  ⟨h.blk, h.rowL, h.rowB, hS r h.lt h.sR, fun g hg => hS g (World.ownsRow.lt h.rowL g hg).2 (h.sL g hg), fun g hg => hS g (World.ownsRow.lt h.rowB g hg).2 (h.sB g hg),
    fun f hf => ⟨(h.byL f hf).1, fun g hg => hS g (World.ownsRow.lt (h.byL f hf).1 g hg).2 ((h.byL f hf).2 g hg)⟩,
    fun f hf => ⟨(h.byB f hf).1, fun g hg => hS g (World.ownsRow.lt (h.byB f hf).1 g hg).2 ((h.byB f hf).2 g hg)⟩⟩
end
/-- The document's disk. -/
def RefAt (w : World) (r : Nat) (S : Nat → Prop) (M : DM) : Prop :=
  ∃ vl vb tl tb n, RefLies w r S vl vb tl tb M.blocks M.off M.ops n M.keep ∧ trM tl = M.L ∧ trM tb = M.buf ∧ n.toNat = M.n
theorem tr_at {w : World} {e : TypeId} {v : Value} {t : List Tr} (h : w.ownsRow 0 e 2 v t.length (trs t)) {i : Nat} (hi : i < t.length) :
    ∃ g c, v = .slice (some ⟨g, 0, none⟩) t.length c ∧ t.length ≤ c ∧ g < w.heap.size ∧ w.cell? ⟨g, i * 2, none⟩ = some (.string (t.getD i default).1) ∧ w.cell? ⟨g, i * 2 + 1, none⟩ = some (t.getD i default).2.1 := by
  rcases id h.2 with ⟨rfl, hn⟩ | ⟨g, cap, cur, rfl, hB, hg, hnc, _, _, _⟩
  · omega
  · have h1 := trs_at hi
    refine ⟨g, cap, rfl, hnc, (World.ownsRow.lt h g rfl).2, ?_, ?_⟩
    · rw [World.ownsRow.cellAt h (i * 2) (by omega)]
      exact h1.1
    · rw [World.ownsRow.cellAt h (i * 2 + 1) (by omega)]
      exact h1.2
theorem tr_shape {w : World} {e : TypeId} {v : Value} {t : List Tr} (h : w.ownsRow 0 e 2 v t.length (trs t)) : ∃ p c, v = .slice p t.length c ∧ t.length ≤ c := by
  rcases id h.2 with ⟨rfl, hn⟩ | ⟨g, cap, cur, rfl, hB, hg, hnc, _, _, _⟩
  · exact ⟨none, 0, by rw [hn], by omega⟩
  · exact ⟨_, _, rfl, hnc⟩

theorem needs_any (m : Nat) (w : World) (hm : m ≤ 140737488355328) : Calls Try.prog 69 #[.int .i64 (m : Nat)] w fun e w' => e = .returned (.int .i64 (need m : Nat)) ∧ w' = w := by
  have hq : ((m : Int).tdiv 64) = ((m / 64 : Nat) : Int) := by rw [Int.tdiv_eq_ediv_of_nonneg (by omega)]; omega
  obtain ⟨q, hq'⟩ : ∃ q : Nat, q = m / 64 := ⟨_, rfl⟩
  have hqb : (q : Int) ≤ 140737488355328 := by omega
  rw [← hq'] at hq
  unfold need
  rw [← hq']
  clear hq'
  go_enter Try.func69, Try.ntmps69
  go_wp2
  go_ret
  refine ⟨?_, rfl⟩
  simp
set_option maxRecDepth 10000 in
set_option maxHeartbeats 1000000 in
theorem rfind_any {w : World} {r : Nat} {S : Nat → Prop} {vl vb : Value} {tl tb : List Tr} {blocks : Nat} {off : Bool} {ops : Nat} {n keep : Int} (h : RefLies w r S vl vb tl tb blocks off ops n keep) (hl : tl.length ≤ 1099511627776) (x : ByteArray) :
    Calls Try.prog 65 #[.pointer (some ⟨r, 0, none⟩), .string x] w fun e w' => (∃ z : Int, e = .returned (.int .i64 z) ∧ ((z = -1 ∧ x ∉ nms (trM tl)) ∨ ∃ i : Nat, z = (i : Int) ∧ i < tl.length ∧ (tl.getD i default).1 = x ∧ x ∉ nms (trM (tl.take i)))) ∧ Below w.heap.size w w' := by
  obtain ⟨-, c1, -⟩ := h.cells
  have hlt := h.lt
  obtain ⟨p, c, rfl, hc⟩ := tr_shape h.rowL
  go_enter Try.func65, Try.ntmps65
  go_wp2
  go_loopw [12] (fun t wr => ∃ j : Nat, j ≤ tl.length ∧ t = .int .i64 (j : Nat) ∧ Hid (x ∉ nms (trM (tl.take j))) ∧ Below w.heap.size w wr) (fun t _ => tl.length - (intOf t).toNat)
  case atStart => exact ⟨0, by omega, rfl, (by show x ∉ ([] : List ByteArray); simp), Below.refl _ _⟩
  case round =>
    obtain ⟨j, hj, rfl, hno, hb⟩ := hrel
    by_cases hjl : j < tl.length
    · obtain ⟨g, c', e, _, hg, d0, d1⟩ := tr_at (h.below hb).rowL hjl
      simp only [Value.slice.injEq] at e
      obtain ⟨rfl, -, rfl⟩ := e
      have htk : Hid (nms (trM (tl.take (j + 1))) = nms (trM (tl.take j)) ++ [(tl.getD j default).1]) := by
        show _ = _
        rw [List.take_succ_eq_append_getElem hjl, List.getD_eq_getElem?_getD, List.getElem?_eq_getElem hjl]
        unfold nms trM
        rw [List.map_append, List.map_append]
        rfl
      obtain ⟨pu, cu, hu⟩ := (h.byL (tl.getD j default) (by rw [List.getD_eq_getElem?_getD, List.getElem?_eq_getElem hjl]; exact List.getElem_mem hjl)).1.shape
      rw [hu] at d1
      generalize (tl.getD j default).2.2.length = lu at *
      clear hu
      by_cases hx : (tl.getD j default).1 = x
      · have hfound : Hid ((tl.getD j default).1 = x) := hx
        rw [hx] at d0
        clear htk hx c1
        go_wp2
        go_ret
        exact ⟨⟨j, rfl, .inr ⟨j, rfl, hjl, hfound.out, hno.out⟩⟩, hb.alloc (by have := hb.size; omega) _⟩
      · have hne := str_ne8 hx
        have hno' : Hid (x ∉ nms (trM (tl.take (j + 1)))) := by
          show _ ∉ _
          rw [htk.out]
          exact fun h => (List.mem_append.1 h).elim hno.out fun h => hx (List.mem_singleton.1 h).symm
        clear htk hx c1 hno
        generalize (tl.getD j default).1 = y at *
        go_wp2
        go_roundw
        case rel => exact ⟨j + 1, by omega, by simp, hno', hb.alloc (by have := hb.size; omega) _⟩
        case measure => simp only [intOf]; omega
    · obtain rfl : j = tl.length := by omega
      have hno' : Hid (x ∉ nms (trM tl)) := by
        have := hno.out
        rwa [List.take_length] at this
      clear hno
      go_wp2
      go_ret
      exact ⟨⟨-1, rfl, .inl ⟨rfl, hno'.out⟩⟩, hb⟩
end Go.Proofs.Ytefgnehahedckaa

/-
  The document's own disk: Pending, all, Used.
-/
namespace Go.Proofs.Ytefgnehahedckaa
open Go.RowKit Go.Maps

theorem tot_take {t : List Tr} {j : Nat} (h : j < t.length) : tot (trM (t.take (j + 1))) = tot (trM (t.take j)) + (t.getD j default).2.2.length := by
  rw [List.take_succ_eq_append_getElem h, List.getD_eq_getElem?_getD, List.getElem?_eq_getElem h]
  unfold trM
  rw [List.map_append, tot_append]
  rfl
theorem tot_take_le (t : List Tr) (j : Nat) : tot (trM (t.take j)) ≤ tot (trM t) := by
  conv => rhs; rw [← List.take_append_drop j t]
  unfold trM
  rw [List.map_append, tot_append]
  omega
section
variable {w : World} {r : Nat} {S : Nat → Prop} {vl vb : Value} {tl tb : List Tr} {blocks : Nat} {off : Bool} {ops : Nat} {n keep : Int}
set_option maxRecDepth 10000 in
set_option maxHeartbeats 1000000 in
theorem rpending_any (h : RefLies w r S vl vb tl tb blocks off ops n keep) (hl : tb.length ≤ 1099511627776) (ht : tot (trM tb) ≤ 1099511627776) :
    Calls Try.prog 46 #[.pointer (some ⟨r, 0, none⟩)] w fun e w' => e = .returned (.int .i64 (tot (trM tb) : Nat)) ∧ Below w.heap.size w w' := by
  obtain ⟨-, -, c2, -⟩ := h.cells
  have hlt := h.lt
  obtain ⟨p, c, rfl, hc⟩ := tr_shape h.rowB
  have ht' : Hid (tot (trM tb) ≤ 1099511627776) := ht
  clear ht
  go_enter Try.func46, Try.ntmps46
  go_wp2
  go_loopw [11, 3] (fun t s wr => ∃ j : Nat, j ≤ tb.length ∧ t = .int .i64 (j : Nat) ∧ s = .int .i64 ((tot (trM (tb.take j)) : Nat) : Int) ∧ Below w.heap.size w wr) (fun t _ _ => tb.length - (intOf t).toNat)
  case atStart => exact ⟨0, by omega, rfl, rfl, Below.refl _ _⟩
  case round =>
    obtain ⟨j, hj, rfl, rfl, hb⟩ := hrel
    by_cases hjl : j < tb.length
    · obtain ⟨g, c', e, _, hg, d0, d1⟩ := tr_at (h.below hb).rowB hjl
      simp only [Value.slice.injEq] at e
      obtain ⟨rfl, -, rfl⟩ := e
      obtain ⟨pu, cu, hu⟩ := (h.byB (tb.getD j default) (by rw [List.getD_eq_getElem?_getD, List.getElem?_eq_getElem hjl]; exact List.getElem_mem hjl)).1.shape
      rw [hu] at d1
      have hst : Hid (tot (trM (tb.take (j + 1))) = tot (trM (tb.take j)) + (tb.getD j default).2.2.length) := tot_take hjl
      have hb1 : tot (trM (tb.take j)) + (tb.getD j default).2.2.length ≤ 1099511627776 := by
        have := tot_take_le tb (j + 1)
        have := ht'.out
        have := hst.out
        omega
      generalize (tb.getD j default).2.2.length = lu at *
      generalize (tb.getD j default).1 = y at *
      generalize tot (trM (tb.take j)) = tj at *
      clear hu c2
      go_wp2
      go_roundw
      case rel => exact ⟨j + 1, by omega, by simp, by rw [hst.out]; simp, hb.alloc (by have := hb.size; omega) _⟩
      case measure => simp only [intOf]; omega
    · obtain rfl : j = tb.length := by omega
      rw [List.take_length]
      clear c2
      go_wp2
      go_ret
      exact ⟨rfl, hb⟩
end
end Go.Proofs.Ytefgnehahedckaa
