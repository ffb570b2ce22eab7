import Derived.Test.YtnbaoimjcaeeaaaGreatCmGTo
import Derived.Laws.ResultCell
import Derived.Laws.Rows
/-
  A reader beside the box of a command: what each call of the reader and each store leaves.
-/
namespace Go.Proofs.YtnbaoimjcaeeaaaGreat
open Go.RowKit

theorem frozen9 {W : World} {k : Nat} {c : Array Value} {t : TypeId} (h : W.heap[k]? = some (.cells c t (0, 0))) (j : Nat) : W.frozen? ⟨k, j, none⟩ = false := by simp [World.frozen?, h]
theorem set_block9 {w : World} {b : Nat} {c : Array Value} {t : TypeId} (h : w.heap[b]? = some (.cells c t (0, 0))) (i : Nat) (v : Value) (hi : i < c.size) : (w.setCell ⟨b, i, none⟩ v).heap[b]? = some (.cells (c.set i v hi) t (0, 0)) := by
  have hlt := (Array.getElem?_eq_some_iff.1 h).1
  have hg := (Array.getElem?_eq_some_iff.1 h).2
  simp only [World.setCell, Array.getElem?_modify, hlt, Array.getElem?_eq_getElem, hg]
  simp [Array.setIfInBounds, hi]

/-- The reader lies in block n + 1, the command in n + 2, the result in n; the bytes below n. -/
structure RdC (w0 w : World) (S : List Int × Bool) (c : Cmd9) : Prop where
  rd : ∃ v, Rd w (w0.heap.size + 1) w0.heap.size v S.1 S.2
  box : CmdAt w (w0.heap.size + 1 + 1) c
  res : CmdAt w w0.heap.size zeroC9
  bel : Below w0.heap.size w0 w
  inv : Inv S.1 S.2
  isb : IsB S.1
  len : S.1.length ≤ 1099511627776

theorem RdC.grow {w0 w w' : World} {S S' : List Int × Bool} {c : Cmd9} (h : RdC w0 w S c) (hr : ∃ v, Rd w' (w0.heap.size + 1) w0.heap.size v S'.1 S'.2) (hg : w.grownBy w' (some (w0.heap.size + 1))) (hi : Inv S'.1 S'.2) (hB : IsB S'.1) (hl : S'.1.length ≤ S.1.length) : RdC w0 w' S' c :=
  ⟨hr, (hg.block _ h.box.lt (by intro e; have := Option.some.inj e; omega)).trans h.box, (hg.block _ h.res.lt (by intro e; have := Option.some.inj e; omega)).trans h.res,
    ⟨hg.os.trans h.bel.os, hg.tape.trans h.bel.tape, hg.output.trans h.bel.output, Nat.le_trans h.bel.size hg.size, fun k hk => (hg.block k (Nat.lt_of_lt_of_le hk h.bel.size) (by simp; omega)).trans (h.bel.block k hk)⟩, hi, hB, Nat.le_trans hl h.len⟩

theorem RdC.int {w0 w : World} {S : List Int × Bool} {c : Cmd9} (h : RdC w0 w S c) :
    Calls Tryz.prog 68 #[.pointer (some ⟨w0.heap.size + 1, 0, none⟩)] w fun e w' => e = .returned (.int .i64 (int9 S).1) ∧ RdC w0 w' (int9 S).2 c := by
  obtain ⟨v, hv⟩ := h.rd
  refine (int_any w _ _ v _ _ hv h.isb h.len).mono ?_
  rw [h.inv.src]
  rintro e w' ⟨rfl, hr, hg⟩
  exact ⟨rfl, h.grow hr hg (h.inv.lose _) (loseS_isB h.isb _ _) (loseS_length _ _ _)⟩

theorem RdC.text {w0 w : World} {S : List Int × Bool} {c : Cmd9} (h : RdC w0 w S c) :
    Calls Tryz.prog 78 #[.pointer (some ⟨w0.heap.size + 1, 0, none⟩)] w fun e w' => e = .returned (.string (txt9 S).1) ∧ RdC w0 w' (txt9 S).2 c := by
  obtain ⟨v, hv⟩ := h.rd
  refine (text_any w _ _ v _ _ hv h.isb h.len).mono ?_
  rw [h.inv.src]
  rintro e w' ⟨rfl, hr, hg⟩
  exact ⟨rfl, h.grow hr hg (h.inv.lose _) (loseS_isB h.isb _ _) (loseS_length _ _ _)⟩

theorem RdC.rint {w0 w : World} {S : List Int × Bool} {c : Cmd9} (h : RdC w0 w S c) :
    Calls Tryz.prog 35 #[.pointer (some ⟨w0.heap.size + 1, 0, none⟩)] w fun e w' => e = .returned (.int .i64 (int9 S).1) ∧ RdC w0 w' (int9 S).2 c := by
  obtain ⟨v, hv⟩ := h.rd
  refine (rint_any w _ _ v _ _ hv h.inv h.isb h.len).mono ?_
  rintro e w' ⟨rfl, hr, hg⟩
  exact ⟨rfl, h.grow hr hg (h.inv.lose _) (loseS_isB h.isb _ _) (loseS_length _ _ _)⟩

theorem RdC.rtext {w0 w : World} {S : List Int × Bool} {c : Cmd9} (h : RdC w0 w S c) :
    Calls Tryz.prog 72 #[.pointer (some ⟨w0.heap.size + 1, 0, none⟩)] w fun e w' => e = .returned (.string (txt9 S).1) ∧ RdC w0 w' (txt9 S).2 c := by
  obtain ⟨v, hv⟩ := h.rd
  refine (rtext_any w _ _ v _ _ hv h.inv h.isb h.len).mono ?_
  rintro e w' ⟨rfl, hr, hg⟩
  exact ⟨rfl, h.grow hr hg (h.inv.lose _) (loseS_isB h.isb _ _) (loseS_length _ _ _)⟩

theorem RdC.fin {w0 w : World} {S : List Int × Bool} {c : Cmd9} (h : RdC w0 w S c) :
    Calls Tryz.prog 67 #[.pointer (some ⟨w0.heap.size + 1, 0, none⟩)] w fun e w' => e = .returned (.bool (S.1.isEmpty && !S.2)) ∧ w' = w := by
  obtain ⟨v, hv⟩ := h.rd
  exact end_any w _ _ v _ _ hv

theorem RdC.rfin {w0 w : World} {S : List Int × Bool} {c : Cmd9} (h : RdC w0 w S c) :
    Calls Tryz.prog 30 #[.pointer (some ⟨w0.heap.size + 1, 0, none⟩)] w fun e w' => e = .returned (.bool (S.1.isEmpty && !S.2)) ∧ w' = w := by
  obtain ⟨v, hv⟩ := h.rd
  exact rend_any w _ _ v _ _ hv

theorem RdC.below {w0 w w' : World} {S : List Int × Bool} {c : Cmd9} (h : RdC w0 w S c) (hb : Below w.heap.size w w') : RdC w0 w' S c := by
  obtain ⟨v, hv⟩ := h.rd
  exact ⟨⟨v, hv.below hb hv.lt⟩, h.box.below hb, h.res.below hb, h.bel.trans (hb.mono h.bel.size), h.inv, h.isb, h.len⟩

/-- A store into the command's box. -/
theorem RdC.put {w0 w : World} {S : List Int × Bool} {c c' : Cmd9} (h : RdC w0 w S c) (i : Nat) (v : Value) (hi : i < 8) (hc : c'.arr = c.arr.set i v (by show i < 8; exact hi)) : RdC w0 (w.setCell ⟨w0.heap.size + 1 + 1, i, none⟩ v) S c' := by
  have hg := grown_set w (w0.heap.size + 1 + 1) i v
  obtain ⟨u, hu⟩ := h.rd
  refine ⟨⟨u, hu.grown hg (by omega) (by omega)⟩, ?_, (hg.block _ h.res.lt (by intro e; have := Option.some.inj e; omega)).trans h.res,
    ⟨hg.os.trans h.bel.os, hg.tape.trans h.bel.tape, hg.output.trans h.bel.output, Nat.le_trans h.bel.size hg.size, fun k hk => (hg.block k (Nat.lt_of_lt_of_le hk h.bel.size) (by simp; omega)).trans (h.bel.block k hk)⟩, h.inv, h.isb, h.len⟩
  unfold CmdAt
  rw [hc]
  exact set_block9 h.box i v _

theorem CmdAt.put {w : World} {b : Nat} {c c' : Cmd9} (h : CmdAt w b c) (i : Nat) (v : Value) (hi : i < 8) (hc : c'.arr = c.arr.set i v (by show i < 8; exact hi)) : CmdAt (w.setCell ⟨b, i, none⟩ v) b c' := by
  unfold CmdAt
  rw [hc]
  exact set_block9 h i v _

/-- A whole command stored into a box. -/
theorem fill9 {w0 w : World} {b : Nat} {c0 : Cmd9} (h : CmdAt w b c0) (hb : Below w0.heap.size w0 w) (hle : w0.heap.size ≤ b) (k s q : Int) (key old val unt : ByteArray) (lim : Int) :
    CmdAt ((((((((w.setCell ⟨b, 0, none⟩ (.int .i64 k)).setCell ⟨b, 1, none⟩ (.int .i64 s)).setCell ⟨b, 2, none⟩ (.int .i64 q)).setCell ⟨b, 3, none⟩ (.string key)).setCell ⟨b, 4, none⟩ (.string old)).setCell ⟨b, 5, none⟩ (.string val)).setCell ⟨b, 6, none⟩ (.string unt)).setCell ⟨b, 7, none⟩ (.int .i64 lim)) b ⟨k, s, q, key, old, val, unt, lim⟩ ∧ Below w0.heap.size w0 ((((((((w.setCell ⟨b, 0, none⟩ (.int .i64 k)).setCell ⟨b, 1, none⟩ (.int .i64 s)).setCell ⟨b, 2, none⟩ (.int .i64 q)).setCell ⟨b, 3, none⟩ (.string key)).setCell ⟨b, 4, none⟩ (.string old)).setCell ⟨b, 5, none⟩ (.string val)).setCell ⟨b, 6, none⟩ (.string unt)).setCell ⟨b, 7, none⟩ (.int .i64 lim)) :=
  ⟨((((((((h.put (c' := ⟨k, c0.s, c0.q, c0.key, c0.old, c0.val, c0.unt, c0.lim⟩) 0 (.int .i64 k) (by omega) rfl).put (c' := ⟨k, s, c0.q, c0.key, c0.old, c0.val, c0.unt, c0.lim⟩) 1 (.int .i64 s) (by omega) rfl).put (c' := ⟨k, s, q, c0.key, c0.old, c0.val, c0.unt, c0.lim⟩) 2 (.int .i64 q) (by omega) rfl).put (c' := ⟨k, s, q, key, c0.old, c0.val, c0.unt, c0.lim⟩) 3 (.string key) (by omega) rfl).put (c' := ⟨k, s, q, key, old, c0.val, c0.unt, c0.lim⟩) 4 (.string old) (by omega) rfl).put (c' := ⟨k, s, q, key, old, val, c0.unt, c0.lim⟩) 5 (.string val) (by omega) rfl).put (c' := ⟨k, s, q, key, old, val, unt, c0.lim⟩) 6 (.string unt) (by omega) rfl).put (c' := ⟨k, s, q, key, old, val, unt, lim⟩) 7 (.int .i64 lim) (by omega) rfl), ((((((((hb.setCell (p := ⟨b, 0, none⟩) hle _).setCell (p := ⟨b, 1, none⟩) hle _).setCell (p := ⟨b, 2, none⟩) hle _).setCell (p := ⟨b, 3, none⟩) hle _).setCell (p := ⟨b, 4, none⟩) hle _).setCell (p := ⟨b, 5, none⟩) hle _).setCell (p := ⟨b, 6, none⟩) hle _).setCell (p := ⟨b, 7, none⟩) hle _)⟩

theorem ret_cell9 {P : Program} {fn : Func} {p u : Tmp} {ty : TypeId} (h : fn.results = #[.cell p ty, .tmp u]) (tmps : Array Value) (w : World) (g : Nat) (t : TypeId) (cs : Array Value) (fr : Nat × Nat) (d : TypeDesc)
    (hp : tmps.getD p undef = .pointer (some ⟨g, 0, none⟩)) (hg : w.heap[g]? = some (.cells cs t fr))
    (hu : P.underlying ty = some d) (hd : (match d with | .struct _ | .array _ _ => true | _ => false) = true) (hi : (P.info? ty).map (·.size) = some cs.size) :
    (results fn tmps).run P w = .ok (.tuple #[.agg cs, tmps.getD u undef]) w := by
  rw [results_cell_tmp h, hp]
  simp [asAddr, run_loadVar_row w g t ty cs fr d hg hu hd hi, Result.andThen]

theorem RdC.cells {w0 w : World} {S : List Int × Bool} {c : Cmd9} (h : RdC w0 w S c) : (∀ j, w.frozen? ⟨w0.heap.size + 1 + 1, j, none⟩ = false) ∧ (∀ j, w.frozen? ⟨w0.heap.size, j, none⟩ = false) := ⟨fun j => frozen9 h.box j, fun j => frozen9 h.res j⟩

theorem RdC.new {w : World} {v : Value} {xs : List Int} {t : TypeId} (hv : Has w v xs) (hB : IsB xs) (hl : xs.length ≤ 1099511627776) :
    RdC w (((w.alloc (.cells zeroC9.arr 25)).alloc (.cells #[v, .bool false] t)).alloc (.cells zeroC9.arr 25)) (xs, false) zeroC9 := by
  have hb1 : Below w.heap.size w (w.alloc (.cells zeroC9.arr 25)) := (Below.refl _ _).alloc (Nat.le_refl _) _
  have h1 := CmdAt.new w zeroC9
  have z1 : (w.alloc (.cells zeroC9.arr 25)).heap.size = w.heap.size + 1 := by simp
  generalize w.alloc (.cells zeroC9.arr 25) = w1 at *
  have hbox := heap_alloc_new w1 (.cells #[v, .bool false] t)
  have hb2 : Below w1.heap.size w1 (w1.alloc (.cells #[v, .bool false] t)) := (Below.refl _ _).alloc (Nat.le_refl _) _
  have z2 : (w1.alloc (.cells #[v, .bool false] t)).heap.size = w1.heap.size + 1 := by simp
  have c0 : (w1.alloc (.cells #[v, .bool false] t)).cell? ⟨w1.heap.size, 0, none⟩ = some v := by unfold World.cell?; dsimp only; rw [hbox]; rfl
  have c1 : (w1.alloc (.cells #[v, .bool false] t)).cell? ⟨w1.heap.size, 1, none⟩ = some (.bool false) := by unfold World.cell?; dsimp only; rw [hbox]; rfl
  have f0 := frozen9 hbox
  generalize w1.alloc (.cells #[v, .bool false] t) = w2 at *
  have hR : Rd w2 w1.heap.size w.heap.size v xs false := ⟨by omega, by omega, c0, c1, f0 0, f0 1, (hv.inn.below hb1 (Nat.le_refl _)).below hb2 (by omega)⟩
  have hb3 : Below w2.heap.size w2 (w2.alloc (.cells zeroC9.arr 25)) := (Below.refl _ _).alloc (Nat.le_refl _) _
  have h3 := CmdAt.new w2 zeroC9
  rw [z1] at hR
  rw [z2, z1] at h3
  refine ⟨⟨v, hR.below hb3 (by omega)⟩, h3, (h1.below hb2).below hb3, (hb1.trans (hb2.mono (by omega))).trans (hb3.mono (by omega)), (fun h => by cases h), hB, hl⟩
end Go.Proofs.YtnbaoimjcaeeaaaGreat

/-
  Contracts: command.Read.
-/
namespace Go.Proofs.YtnbaoimjcaeeaaaGreat
open Go.RowKit

set_option maxRecDepth 100000 in
set_option maxHeartbeats 1500000 in
theorem readC_any (v : Value) (xs : List Int) (w : World) (hv : Has w v xs) (hB : IsB xs) (hl : xs.length ≤ 1099511627776) :
    Calls Tryz.prog 103 #[v] w fun e w' => e = .returned (.tuple #[.agg (readC9 xs).1.arr, .int .i64 (readC9 xs).2]) ∧ Below w.heap.size w w' := by
  have hR0 : RdC w _ (xs, false) zeroC9 := RdC.new (t := 101) hv hB hl
  have hmf : ∀ (fn : Fn) (first cap : Array Value) (w : World), (Instr.makeFunc fn first cap).run Tryz.prog w = .ok (.func fn first cap) w := fun _ _ _ _ => rfl
  have HC : Hid (rdC9 xs = (⟨(int9 (xs, false)).1, (int9 (int9 (xs, false)).2).1, (int9 (int9 (int9 (xs, false)).2).2).1, (txt9 (int9 (int9 (int9 (int9 (xs, false)).2).2).2).2).1, (txt9 (txt9 (int9 (int9 (int9 (int9 (xs, false)).2).2).2).2).2).1, (txt9 (txt9 (txt9 (int9 (int9 (int9 (int9 (xs, false)).2).2).2).2).2).2).1, (txt9 (txt9 (txt9 (txt9 (int9 (int9 (int9 (int9 (xs, false)).2).2).2).2).2).2).2).1, (int9 (int9 (int9 (int9 (xs, false)).2).2).2).1⟩, (txt9 (txt9 (txt9 (txt9 (int9 (int9 (int9 (int9 (xs, false)).2).2).2).2).2).2).2).2)) := rfl
  have HR : Hid (readC9 xs = if ((rdC9 xs).2.1.isEmpty && !(rdC9 xs).2.2) && good9 (rdC9 xs).1 then ((rdC9 xs).1, 0) else (zeroC9, 8)) := rfl
  obtain ⟨pb, cb, hvb, -, -, -⟩ := id hv
  generalize hnb : xs.length = nb at hvb
  subst hvb
  clear hnb hv
  generalize ((xs, false) : List Int × Bool) = S0 at *
  unfold zeroC9 Cmd9.arr at hR0
  dsimp only at hR0
  go_enter Tryz.func103, Tryz.ntmps103
  go_wp2_with fail
  refine hR0.int.mono ?_
  rintro e w1 ⟨rfl, hR1⟩
  clear hR0
  generalize int9 S0 = A at *
  obtain ⟨z0, S1⟩ := A
  dsimp only at hR1 HC
  go_wp2_with fail
  refine hR1.int.mono ?_
  rintro e w2 ⟨rfl, hR2⟩
  clear hR1
  generalize int9 S1 = A at *
  obtain ⟨z1, S2⟩ := A
  dsimp only at hR2 HC
  go_wp2_with fail
  refine hR2.int.mono ?_
  rintro e w3 ⟨rfl, hR3⟩
  clear hR2
  generalize int9 S2 = A at *
  obtain ⟨z2, S3⟩ := A
  dsimp only at hR3 HC
  go_wp2_with fail
  refine hR3.int.mono ?_
  rintro e w4 ⟨rfl, hR4⟩
  clear hR3
  generalize int9 S3 = A at *
  obtain ⟨z3, S4⟩ := A
  dsimp only at hR4 HC
  have f2 := hR4.cells.1
  obtain ⟨c0, c1, c2, c3, c4, c5, c6, c7⟩ := hR4.box.cells
  dsimp only at c0 c1 c2 c3 c4 c5 c6 c7
  go_wp2_with fail
  have hR5 := (((hR4.put (c' := ⟨z0, 0, 0, em9, em9, em9, em9, 0⟩) 0 (.int .i64 z0) (by omega) rfl).put (c' := ⟨z0, z1, 0, em9, em9, em9, em9, 0⟩) 1 (.int .i64 z1) (by omega) rfl).put (c' := ⟨z0, z1, z2, em9, em9, em9, em9, 0⟩) 2 (.int .i64 z2) (by omega) rfl).put (c' := ⟨z0, z1, z2, em9, em9, em9, em9, z3⟩) 7 (.int .i64 z3) (by omega) rfl
  clear hR4 f2 c0 c1 c2 c3 c4 c5 c6 c7
  generalize (((w4.setCell ⟨w.heap.size + 1 + 1, 0, none⟩ (.int .i64 z0)).setCell ⟨w.heap.size + 1 + 1, 1, none⟩ (.int .i64 z1)).setCell ⟨w.heap.size + 1 + 1, 2, none⟩ (.int .i64 z2)).setCell ⟨w.heap.size + 1 + 1, 7, none⟩ (.int .i64 z3) = x5 at *
  replace hR5 : RdC w x5 S4 _ := hR5
  refine hR5.text.mono ?_
  rintro e w5 ⟨rfl, hR6⟩
  clear hR5
  generalize txt9 S4 = A at *
  obtain ⟨z4, S5⟩ := A
  dsimp only at hR6 HC
  go_wp2_with fail
  refine hR6.text.mono ?_
  rintro e w6 ⟨rfl, hR7⟩
  clear hR6
  generalize txt9 S5 = A at *
  obtain ⟨z5, S6⟩ := A
  dsimp only at hR7 HC
  go_wp2_with fail
  refine hR7.text.mono ?_
  rintro e w7 ⟨rfl, hR8⟩
  clear hR7
  generalize txt9 S6 = A at *
  obtain ⟨z6, S7⟩ := A
  dsimp only at hR8 HC
  go_wp2_with fail
  refine hR8.text.mono ?_
  rintro e w8 ⟨rfl, hR9⟩
  clear hR8
  generalize txt9 S7 = A at *
  obtain ⟨z7, S8⟩ := A
  dsimp only at hR9 HC
  have f2 := hR9.cells.1
  obtain ⟨c0, c1, c2, c3, c4, c5, c6, c7⟩ := hR9.box.cells
  dsimp only at c0 c1 c2 c3 c4 c5 c6 c7
  go_wp2_with fail
  have hRa := (((hR9.put (c' := ⟨z0, z1, z2, z4, em9, em9, em9, z3⟩) 3 (.string z4) (by omega) rfl).put (c' := ⟨z0, z1, z2, z4, z5, em9, em9, z3⟩) 4 (.string z5) (by omega) rfl).put (c' := ⟨z0, z1, z2, z4, z5, z6, em9, z3⟩) 5 (.string z6) (by omega) rfl).put (c' := ⟨z0, z1, z2, z4, z5, z6, z7, z3⟩) 6 (.string z7) (by omega) rfl
  clear hR9 f2 c0 c1 c2 c3 c4 c5 c6 c7
  generalize (((w8.setCell ⟨w.heap.size + 1 + 1, 3, none⟩ (.string z4)).setCell ⟨w.heap.size + 1 + 1, 4, none⟩ (.string z5)).setCell ⟨w.heap.size + 1 + 1, 5, none⟩ (.string z6)).setCell ⟨w.heap.size + 1 + 1, 6, none⟩ (.string z7) = x9 at *
  have hfin := hRa.fin
  rw [HC.out] at HR
  dsimp only at HR
  have hgd := good_any ⟨z0, z1, z2, z4, z5, z6, z7, z3⟩ x9
  obtain ⟨c0, c1, c2, c3, c4, c5, c6, c7⟩ := hRa.box.cells
  dsimp only at c0 c1 c2 c3 c4 c5 c6 c7
  generalize (S8.1.isEmpty && !S8.2) = fi at *
  cases fi with
  | false =>
    have HR2 : Hid (readC9 xs = (zeroC9, 8)) := by rw [Hid, HR.out]; rfl
    have f0 := hRa.cells.2
    obtain ⟨r0, r1, r2, r3, r4, r5, r6, r7⟩ := hRa.res.cells
    dsimp only [zeroC9] at r0 r1 r2 r3 r4 r5 r6 r7
    clear HR hgd
    refine same_mono hfin ?_
    go_wp2
    have hF := fill9 hRa.res hRa.bel (Nat.le_refl _) 0 0 0 em9 em9 em9 em9 0
    refine bodyPost_ret (ret_cell9 rfl _ _ w.heap.size _ _ _ _ rfl hF.1 Tryz.underlying25 rfl (by kernel_rfl)) rfl ⟨?_, hF.2⟩
    rw [HR2.out]
    rfl
  | true =>
    refine same_mono hfin ?_
    clear hfin
    go_wp2_with fail
    refine hgd.mono ?_
    rintro e y9 ⟨rfl, hb9⟩
    have hRb := hRa.below hb9
    have f0 := hRb.cells.2
    obtain ⟨r0, r1, r2, r3, r4, r5, r6, r7⟩ := hRb.res.cells
    dsimp only [zeroC9] at r0 r1 r2 r3 r4 r5 r6 r7
    obtain ⟨d0, d1, d2, d3, d4, d5, d6, d7⟩ := hRb.box.cells
    dsimp only at d0 d1 d2 d3 d4 d5 d6 d7
    clear hgd hRa c0 c1 c2 c3 c4 c5 c6 c7
    generalize good9 _ = g at *
    cases g with
    | false =>
      have HR2 : Hid (readC9 xs = (zeroC9, 8)) := by rw [Hid, HR.out]; rfl
      clear HR
      go_wp2
      have hF := fill9 hRb.res hRb.bel (Nat.le_refl _) 0 0 0 em9 em9 em9 em9 0
      refine bodyPost_ret (ret_cell9 rfl _ _ w.heap.size _ _ _ _ rfl hF.1 Tryz.underlying25 rfl (by kernel_rfl)) rfl ⟨?_, hF.2⟩
      rw [HR2.out]
      rfl
    | true =>
      have HR2 : Hid (readC9 xs = (⟨z0, z1, z2, z4, z5, z6, z7, z3⟩, 0)) := by rw [Hid, HR.out]; rfl
      clear HR
      go_wp2
      have hF := fill9 hRb.res hRb.bel (Nat.le_refl _) z0 z1 z2 z4 z5 z6 z7 z3
      refine bodyPost_ret (ret_cell9 rfl _ _ w.heap.size _ _ _ _ rfl hF.1 Tryz.underlying25 rfl (by kernel_rfl)) rfl ⟨?_, hF.2⟩
      rw [HR2.out]
      rfl
end Go.Proofs.YtnbaoimjcaeeaaaGreat
