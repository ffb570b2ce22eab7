/-
  A reader beside the box of a command: what each call of the reader and each store leaves.
-/
import Derived.Test.YtomhmoedicajoaaCmG
import Derived.Laws.ResultCell
import Derived.Laws.Rows
namespace Go.Proofs.Ytomhmoedicajoaa
open Go.RowKit

theorem frozen9 {W : World} {k : Nat} {c : Array Value} {t : TypeId} (h : W.heap[k]? = some (.cells c t (0, 0))) (j : Nat) : W.frozen? ⟨k, j, none⟩ = false := by simp [World.frozen?, h]
theorem set_block9 {w : World} {b : Nat} {c : Array Value} {t : TypeId} (h : w.heap[b]? = some (.cells c t (0, 0))) (i : Nat) (v : Value) (hi : i < c.size) : (w.setCell ⟨b, i, none⟩ v).heap[b]? = some (.cells (c.set i v hi) t (0, 0)) := by
  have hlt := (Array.getElem?_eq_some_iff.1 h).1
  have hg := (Array.getElem?_eq_some_iff.1 h).2
  simp only [World.setCell, Array.getElem?_modify, hlt, Array.getElem?_eq_getElem, hg]
  simp [Array.setIfInBounds, hi]

/-- The reader lies in block n + 1, the command in n + 2, the result in n; the bytes below n. -/
structure RdC (w0 w : World) (S : List Int × Bool) (c : Cmd9) : Prop where
  rd : ∃ v, Rd w (w0.heap.size + 1) w0.heap.size v S.1 S.2
  box : CmdAt w (w0.heap.size + 1 + 1) c
  res : CmdAt w w0.heap.size zeroC9
  bel : Below w0.heap.size w0 w
  inv : Inv S.1 S.2
  isb : IsB S.1
  len : S.1.length ≤ 1099511627776

theorem RdC.grow {w0 w w' : World} {S S' : List Int × Bool} {c : Cmd9} (h : RdC w0 w S c) (hr : ∃ v, Rd w' (w0.heap.size + 1) w0.heap.size v S'.1 S'.2) (hg : w.grownBy w' (some (w0.heap.size + 1))) (hi : Inv S'.1 S'.2) (hB : IsB S'.1) (hl : S'.1.length ≤ S.1.length) : RdC w0 w' S' c :=
  ⟨hr, (hg.block _ h.box.lt (by intro e; have := Option.some.inj e; omega)).trans h.box, (hg.block _ h.res.lt (by intro e; have := Option.some.inj e; omega)).trans h.res,
    ⟨hg.os.trans h.bel.os, hg.tape.trans h.bel.tape, hg.output.trans h.bel.output, Nat.le_trans h.bel.size hg.size, fun k hk => (hg.block k (Nat.lt_of_lt_of_le hk h.bel.size) (by simp; omega)).trans (h.bel.block k hk)⟩, hi, hB, Nat.le_trans hl h.len⟩

theorem RdC.int {w0 w : World} {S : List Int × Bool} {c : Cmd9} (h : RdC w0 w S c) :
    Calls Try.prog 38 #[.pointer (some ⟨w0.heap.size + 1, 0, none⟩)] w fun e w' => e = .returned (.int .i64 (int9 S).1) ∧ RdC w0 w' (int9 S).2 c := by
  obtain ⟨v, hv⟩ := h.rd
  refine (int_any w _ _ v _ _ hv h.isb h.len).mono ?_
  rw [h.inv.src]
  rintro e w' ⟨rfl, hr, hg⟩
  exact ⟨rfl, h.grow hr hg (h.inv.lose _) (loseS_isB h.isb _ _) (loseS_length _ _ _)⟩
theorem RdC.text {w0 w : World} {S : List Int × Bool} {c : Cmd9} (h : RdC w0 w S c) :
    Calls Try.prog 39 #[.pointer (some ⟨w0.heap.size + 1, 0, none⟩)] w fun e w' => e = .returned (.string (txt9 S).1) ∧ RdC w0 w' (txt9 S).2 c := by
  obtain ⟨v, hv⟩ := h.rd
  refine (text_any w _ _ v _ _ hv h.isb h.len).mono ?_
  rw [h.inv.src]
  rintro e w' ⟨rfl, hr, hg⟩
  exact ⟨rfl, h.grow hr hg (h.inv.lose _) (loseS_isB h.isb _ _) (loseS_length _ _ _)⟩
theorem RdC.rint {w0 w : World} {S : List Int × Bool} {c : Cmd9} (h : RdC w0 w S c) :
    Calls Try.prog 41 #[.pointer (some ⟨w0.heap.size + 1, 0, none⟩)] w fun e w' => e = .returned (.int .i64 (int9 S).1) ∧ RdC w0 w' (int9 S).2 c := by
  obtain ⟨v, hv⟩ := h.rd
  refine (rint_any w _ _ v _ _ hv h.inv h.isb h.len).mono ?_
  rintro e w' ⟨rfl, hr, hg⟩
  exact ⟨rfl, h.grow hr hg (h.inv.lose _) (loseS_isB h.isb _ _) (loseS_length _ _ _)⟩
theorem RdC.rtext {w0 w : World} {S : List Int × Bool} {c : Cmd9} (h : RdC w0 w S c) :
    Calls Try.prog 42 #[.pointer (some ⟨w0.heap.size + 1, 0, none⟩)] w fun e w' => e = .returned (.string (txt9 S).1) ∧ RdC w0 w' (txt9 S).2 c := by
  obtain ⟨v, hv⟩ := h.rd
  refine (rtext_any w _ _ v _ _ hv h.inv h.isb h.len).mono ?_
  rintro e w' ⟨rfl, hr, hg⟩
  exact ⟨rfl, h.grow hr hg (h.inv.lose _) (loseS_isB h.isb _ _) (loseS_length _ _ _)⟩
theorem RdC.fin {w0 w : World} {S : List Int × Bool} {c : Cmd9} (h : RdC w0 w S c) :
    Calls Try.prog 40 #[.pointer (some ⟨w0.heap.size + 1, 0, none⟩)] w fun e w' => e = .returned (.bool (S.1.isEmpty && !S.2)) ∧ w' = w := by
  obtain ⟨v, hv⟩ := h.rd
  exact end_any w _ _ v _ _ hv
theorem RdC.rfin {w0 w : World} {S : List Int × Bool} {c : Cmd9} (h : RdC w0 w S c) :
    Calls Try.prog 43 #[.pointer (some ⟨w0.heap.size + 1, 0, none⟩)] w fun e w' => e = .returned (.bool (S.1.isEmpty && !S.2)) ∧ w' = w := by
  obtain ⟨v, hv⟩ := h.rd
  exact rend_any w _ _ v _ _ hv

theorem RdC.below {w0 w w' : World} {S : List Int × Bool} {c : Cmd9} (h : RdC w0 w S c) (hb : Below w.heap.size w w') : RdC w0 w' S c := by
  obtain ⟨v, hv⟩ := h.rd
  exact ⟨⟨v, hv.below hb hv.lt⟩, h.box.below hb, h.res.below hb, h.bel.trans (hb.mono h.bel.size), h.inv, h.isb, h.len⟩
/-- A store into the command's box. -/
theorem RdC.put {w0 w : World} {S : List Int × Bool} {c c' : Cmd9} (h : RdC w0 w S c) (i : Nat) (v : Value) (hi : i < 8) (hc : c'.arr = c.arr.set i v (by show i < 8; exact hi)) : RdC w0 (w.setCell ⟨w0.heap.size + 1 + 1, i, none⟩ v) S c' := by
  have hg := grown_set w (w0.heap.size + 1 + 1) i v
  obtain ⟨u, hu⟩ := h.rd
  refine ⟨⟨u, hu.grown hg (by omega) (by omega)⟩, ?_, (hg.block _ h.res.lt (by intro e; have := Option.some.inj e; omega)).trans h.res,
    ⟨hg.os.trans h.bel.os, hg.tape.trans h.bel.tape, hg.output.trans h.bel.output, Nat.le_trans h.bel.size hg.size, fun k hk => (hg.block k (Nat.lt_of_lt_of_le hk h.bel.size) (by simp; omega)).trans (h.bel.block k hk)⟩, h.inv, h.isb, h.len⟩
  unfold CmdAt
  rw [hc]
  exact set_block9 h.box i v _
theorem CmdAt.put {w : World} {b : Nat} {c c' : Cmd9} (h : CmdAt w b c) (i : Nat) (v : Value) (hi : i < 8) (hc : c'.arr = c.arr.set i v (by show i < 8; exact hi)) : CmdAt (w.setCell ⟨b, i, none⟩ v) b c' := by
  unfold CmdAt
  rw [hc]
  exact set_block9 h i v _
/-- A whole command stored into a box. -/
theorem fill9 {w0 w : World} {b : Nat} {c0 : Cmd9} (h : CmdAt w b c0) (hb : Below w0.heap.size w0 w) (hle : w0.heap.size ≤ b) (k s q : Int) (key old val unt : ByteArray) (lim : Int) :
    CmdAt ((((((((w.setCell ⟨b, 0, none⟩ (.int .i64 k)).setCell ⟨b, 1, none⟩ (.int .i64 s)).setCell ⟨b, 2, none⟩ (.int .i64 q)).setCell ⟨b, 3, none⟩ (.string key)).setCell ⟨b, 4, none⟩ (.string old)).setCell ⟨b, 5, none⟩ (.string val)).setCell ⟨b, 6, none⟩ (.string unt)).setCell ⟨b, 7, none⟩ (.int .i64 lim)) b ⟨k, s, q, key, old, val, unt, lim⟩ ∧ Below w0.heap.size w0 ((((((((w.setCell ⟨b, 0, none⟩ (.int .i64 k)).setCell ⟨b, 1, none⟩ (.int .i64 s)).setCell ⟨b, 2, none⟩ (.int .i64 q)).setCell ⟨b, 3, none⟩ (.string key)).setCell ⟨b, 4, none⟩ (.string old)).setCell ⟨b, 5, none⟩ (.string val)).setCell ⟨b, 6, none⟩ (.string unt)).setCell ⟨b, 7, none⟩ (.int .i64 lim)) :=
  ⟨((((((((h.put (c' := ⟨k, c0.s, c0.q, c0.key, c0.old, c0.val, c0.unt, c0.lim⟩) 0 (.int .i64 k) (by omega) rfl).put (c' := ⟨k, s, c0.q, c0.key, c0.old, c0.val, c0.unt, c0.lim⟩) 1 (.int .i64 s) (by omega) rfl).put (c' := ⟨k, s, q, c0.key, c0.old, c0.val, c0.unt, c0.lim⟩) 2 (.int .i64 q) (by omega) rfl).put (c' := ⟨k, s, q, key, c0.old, c0.val, c0.unt, c0.lim⟩) 3 (.string key) (by omega) rfl).put (c' := ⟨k, s, q, key, old, c0.val, c0.unt, c0.lim⟩) 4 (.string old) (by omega) rfl).put (c' := ⟨k, s, q, key, old, val, c0.unt, c0.lim⟩) 5 (.string val) (by omega) rfl).put (c' := ⟨k, s, q, key, old, val, unt, c0.lim⟩) 6 (.string unt) (by omega) rfl).put (c' := ⟨k, s, q, key, old, val, unt, lim⟩) 7 (.int .i64 lim) (by omega) rfl), ((((((((hb.setCell (p := ⟨b, 0, none⟩) hle _).setCell (p := ⟨b, 1, none⟩) hle _).setCell (p := ⟨b, 2, none⟩) hle _).setCell (p := ⟨b, 3, none⟩) hle _).setCell (p := ⟨b, 4, none⟩) hle _).setCell (p := ⟨b, 5, none⟩) hle _).setCell (p := ⟨b, 6, none⟩) hle _).setCell (p := ⟨b, 7, none⟩) hle _)⟩
theorem ret_cell9 {P : Program} {fn : Func} {p u : Tmp} {ty : TypeId} (h : fn.results = #[.cell p ty, .tmp u]) (tmps : Array Value) (w : World) (g : Nat) (t : TypeId) (cs : Array Value) (fr : Nat × Nat) (d : TypeDesc)
    (hp : tmps.getD p undef = .pointer (some ⟨g, 0, none⟩)) (hg : w.heap[g]? = some (.cells cs t fr))
    (hu : P.underlying ty = some d) (hd : (match d with | .struct _ | .array _ _ => true | _ => false) = true) (hi : (P.info? ty).map (·.size) = some cs.size) :
    (results fn tmps).run P w = .ok (.tuple #[.agg cs, tmps.getD u undef]) w := by
  rw [results_cell_tmp h, hp]
  simp [asAddr, run_loadVar_row w g t ty cs fr d hg hu hd hi, Result.andThen]

theorem RdC.cells {w0 w : World} {S : List Int × Bool} {c : Cmd9} (h : RdC w0 w S c) : (∀ j, w.frozen? ⟨w0.heap.size + 1 + 1, j, none⟩ = false) ∧ (∀ j, w.frozen? ⟨w0.heap.size, j, none⟩ = false) := ⟨fun j => frozen9 h.box j, fun j => frozen9 h.res j⟩
theorem RdC.new {w : World} {v : Value} {xs : List Int} {t : TypeId} (hv : Has w v xs) (hB : IsB xs) (hl : xs.length ≤ 1099511627776) :
    RdC w (((w.alloc (.cells zeroC9.arr 23)).alloc (.cells #[v, .bool false] t)).alloc (.cells zeroC9.arr 23)) (xs, false) zeroC9 := by
  have hb1 : Below w.heap.size w (w.alloc (.cells zeroC9.arr 23)) := (Below.refl _ _).alloc (Nat.le_refl _) _
  have h1 := CmdAt.new w zeroC9
  have z1 : (w.alloc (.cells zeroC9.arr 23)).heap.size = w.heap.size + 1 := by simp
  generalize w.alloc (.cells zeroC9.arr 23) = w1 at *
  have hbox := heap_alloc_new w1 (.cells #[v, .bool false] t)
  have hb2 : Below w1.heap.size w1 (w1.alloc (.cells #[v, .bool false] t)) := (Below.refl _ _).alloc (Nat.le_refl _) _
  have z2 : (w1.alloc (.cells #[v, .bool false] t)).heap.size = w1.heap.size + 1 := by simp
  have c0 : (w1.alloc (.cells #[v, .bool false] t)).cell? ⟨w1.heap.size, 0, none⟩ = some v := by unfold World.cell?; dsimp only; rw [hbox]; rfl
  have c1 : (w1.alloc (.cells #[v, .bool false] t)).cell? ⟨w1.heap.size, 1, none⟩ = some (.bool false) := by unfold World.cell?; dsimp only; rw [hbox]; rfl
  have f0 := frozen9 hbox
  generalize w1.alloc (.cells #[v, .bool false] t) = w2 at *
  have hR : Rd w2 w1.heap.size w.heap.size v xs false := ⟨by omega, by omega, c0, c1, f0 0, f0 1, (hv.inn.below hb1 (Nat.le_refl _)).below hb2 (by omega)⟩
  have hb3 : Below w2.heap.size w2 (w2.alloc (.cells zeroC9.arr 23)) := (Below.refl _ _).alloc (Nat.le_refl _) _
  have h3 := CmdAt.new w2 zeroC9
  rw [z1] at hR
  rw [z2, z1] at h3
  refine ⟨⟨v, hR.below hb3 (by omega)⟩, h3, (h1.below hb2).below hb3, (hb1.trans (hb2.mono (by omega))).trans (hb3.mono (by omega)), (fun h => by cases h), hB, hl⟩
end Go.Proofs.Ytomhmoedicajoaa
