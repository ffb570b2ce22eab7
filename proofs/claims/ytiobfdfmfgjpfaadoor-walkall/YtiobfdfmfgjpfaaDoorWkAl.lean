/-
  The walk of corbellaw06.WalkAll.
-/
import Derived.Test.YtiobfdfmfgjpfaaDoorWkCTo
import Derived.Test.YtiobfdfmfgjpfaaDoorWkCTo
import Derived.Test.YtiobfdfmfgjpfaaDoorSwYTo
import Derived.Test.YtiobfdfmfgjpfaaDoorSwYTo
import Derived.Laws.ResultCell
import Derived.Deep.RegionHeld3
namespace Go.Proofs.YtiobfdfmfgjpfaaDoor
open Go.RowKit Go.Shelf

/-- A range that is done, or left at its block's end: what follows is the same. -/
def EndR (R : World → Prop) (A : Act) (id : Nat) : Exit → Act → World → Prop
  | .normal, a, w => a = A ∧ R w
  | .exit k, a, w => k = id ∧ a = A ∧ R w
  | _, _, _ => False
theorem both_end {F : Fence} {n : Nat} {P : Program} {c : Code} {id : Nat} {Q : Exit → Act → World → Prop} {a : Act} {w : World} (R : World → Prop) (h : c.wpIn F n P (EndR R { a with defers := { target := .collected w.heap.size, args := #[] } :: a.defers } id) a w) (k : ∀ W, R W → Q .normal { a with defers := { target := .collected w.heap.size, args := #[] } :: a.defers } W) : c.wpIn F n P (Exit.inBlock id Q) a w :=
  wpIn_mono h fun e a w h => by
    cases e with
    | normal => obtain ⟨rfl, hr⟩ := h; exact k w hr
    | exit j => obtain ⟨rfl, rfl, hr⟩ := h; show (if j = j then _ else _); rw [if_pos rfl]; exact k w hr
    | _ => exact h.elim
theorem results_cell1 {fn : Func} {p : Tmp} {ty : TypeId} (h : fn.results = #[.cell p ty]) (tmps : Array Value) (P : Program) (w : World) (a : Addr) (v : Value) (hp : tmps.getD p undef = .pointer (some a)) (hl : (loadVar ty a).run P w = .ok v w) : (results fn tmps).run P w = .ok v w := by
  have hp' : tmps[p]?.getD undef = .pointer (some a) := by simpa using hp
  simp [results, h, hp', asAddr, hl]
theorem load_bool (k : Nat) (v : Value) (W : World) (h : W.cell? ⟨k, 0, none⟩ = some v) : (loadVar 4 ⟨k, 0, none⟩).run Tryd.prog W = .ok v W := by
  simp [loadVar, go_sem, h]
theorem fn_nil_s (f : Fn) (c lb : Array Value) (W : World) : (binOp .eql 57 (.func f c lb) .nilFunc).run Tryd.prog W = .ok (.bool false) W := by
  have he : ∀ d, (Op.equalIn (d + 1) 57 (.func f c lb) .nilFunc).run Tryd.prog W = .ok false W := fun d => by simp [Op.equalIn, run_underlying Tryd.underlying57]
  simp [binOp, go_sem]
  show ((Op.equalIn (9999 + 1) 57 (.func f c lb) .nilFunc).run Tryd.prog W).andThen _ = _
  rw [he 9999]
  rfl
theorem But.append {S : List Nat} {X Y w1 : World} {tmp : Obj} {row : Option Nat} {k : Nat} {v' : Value} (h : But S X Y) (hgrow : (Y.alloc tmp).grownBy w1 row) (hr : ∀ j, row = some j → X.heap.size ≤ j) (hk : k ∈ S) : But S X (w1.setCell ⟨k, 0, none⟩ v') := by
  have h1 := h.alloc tmp
  have h2 : But S X w1 := ⟨hgrow.os.trans h1.os, hgrow.tape.trans h1.tape, hgrow.output.trans h1.output, Nat.le_trans h1.size hgrow.size, fun i hi hn => (hgrow.block i (Nat.lt_of_lt_of_le hi h1.size) fun e => by have := hr i e.symm; omega).trans (h1.block i hi hn)⟩
  exact h2.setCell (.inl hk) _

theorem OwnsT.outside {A B : Nat} {X Y : World} {v : Value} {xs : List ByteArray} (h : OwnsT X B v xs) (ho : Outside A B X Y) : OwnsT Y B v xs := by
  refine ⟨h.1, ?_⟩
  rcases h.2 with hn | ⟨g, cap, cur, rfl, hb1, hg, rest⟩
  · exact .inl hn
  · exact .inr ⟨g, cap, cur, rfl, hb1, ho.block g _ hg (.inr ⟨hb1, rfl⟩), rest⟩
theorem infoT6 : (Tryd.prog.info? 9).map (fun i => (i.zero, i.size, i.bytes)) = some (some (.string ⟨#[]⟩), 1, 16) := by kernel_rfl
theorem new_one (X : World) (v : Value) (t : TypeId) : ∀ j u, [v][j]? = some u → (X.alloc (.cells #[v] t)).cell? ((⟨X.heap.size, 0, none⟩ : Addr).add j) = some u := by
  intro j u hj
  match j, hj with
  | 0, hj => simp at hj; subst hj; simp [Addr.add]
theorem pre_keys {M : SM} {pre : List (ByteArray × ByteArray)} (h : pre <+: M.pairs) : pre.map Prod.fst <+: M.keys := by
  have := h.map Prod.fst
  rwa [show M.pairs.map Prod.fst = M.keys by unfold SM.pairs; rw [List.map_map]; simp [Function.comp_def]] at this

theorem pair_in {M : SM} {pre : List (ByteArray × ByteArray)} {k v : ByteArray} (h : pre ++ [(k, v)] <+: M.pairs) : k ∈ M.keys ∧ v = valK M k := by
  have hm : (k, v) ∈ M.pairs := h.subset (by simp)
  obtain ⟨k', hk', e⟩ := List.mem_map.1 hm
  simp only [Prod.mk.injEq] at e
  obtain ⟨rfl, rfl⟩ := e
  exact ⟨hk', rfl⟩

theorem texts_same (u v : Value) (xs : List ByteArray) (w : World) (hx : HasT w u xs) (hy : HasT w v xs) (lx : xs.length ≤ 1099511627776) : Calls Tryd.prog 23 #[u, v] w fun e w' => e = .returned (.bool true) ∧ Below w.heap.size w w' := by
  have := texts_any u v xs xs w hx hy lx lx
  rw [decide_eq_true rfl] at this
  exact this
/-- What the last region reads: three boxes; of what is old nothing is turned but the answer's box. -/
def Reads (X : World) (a1 a2 a3 rb : Nat) (v1 v2 v3 : Value) (w' : World) : Prop := w'.cell? ⟨a1, 0, none⟩ = some v1 ∧ w'.cell? ⟨a2, 0, none⟩ = some v2 ∧ w'.cell? ⟨a3, 0, none⟩ = some v3 ∧ But [rb] X w' ∧ ∃ x, Boxed w' rb 4 (.bool x)
theorem reads_keep {X w1 w2 : World} {a1 a2 a3 rb : Nat} {v1 v2 v3 : Value} (hz : a1 < X.heap.size ∧ a2 < X.heap.size ∧ a3 < X.heap.size) (hb : Below w1.heap.size w1 w2) (h : Reads X a1 a2 a3 rb v1 v2 v3 w1) : Reads X a1 a2 a3 rb v1 v2 v3 w2 := by
  obtain ⟨h1, h2, h3, h4, x, h5⟩ := h
  have := h4.size
  exact ⟨(hb.cell (p := ⟨a1, 0, none⟩) (by show a1 < _; omega)).trans h1, (hb.cell (p := ⟨a2, 0, none⟩) (by show a2 < _; omega)).trans h2, (hb.cell (p := ⟨a3, 0, none⟩) (by show a3 < _; omega)).trans h3, h4.trans (But.of_below hb (Nat.le_refl _)), x, (hb.block _ h5.lt).trans h5⟩
theorem reads_store {X w1 : World} {a1 a2 a3 rb : Nat} {v1 v2 v3 : Value} (hne : a1 ≠ rb ∧ a2 ≠ rb ∧ a3 ≠ rb) (y : Bool) (h : Reads X a1 a2 a3 rb v1 v2 v3 w1) : Reads X a1 a2 a3 rb v1 v2 v3 (w1.setCell ⟨rb, 0, none⟩ (.bool y)) := by
  obtain ⟨h1, h2, h3, h4, x, h5⟩ := h
  have hc : ∀ a : Nat, a ≠ rb → (w1.setCell ⟨rb, 0, none⟩ (.bool y)).cell? ⟨a, 0, none⟩ = w1.cell? ⟨a, 0, none⟩ := fun a ha => World.cell?_of_block (a := ⟨a, 0, none⟩) (Below.heap_setCell _ _ _ _ ha)
  exact ⟨(hc a1 hne.1).trans h1, (hc a2 hne.2.1).trans h2, (hc a3 hne.2.2).trans h3, h4.setCell (.inl (by simp)) _, y, h5.set _⟩
theorem RowT.take {w : World} {g n c : Nat} {xs : List ByteArray} (h : RowT w (.slice (some ⟨g, 0, none⟩) n c) xs) {k : Nat} (hk : k ≤ n) : RowT w (.slice (some ⟨g, 0, none⟩) k c) (xs.take k) := by
  obtain ⟨p, c', e, h1, h2, h3⟩ := h
  simp only [Value.slice.injEq] at e
  obtain ⟨rfl, rfl, rfl⟩ := e
  have hl : (xs.take k).length = k := by rw [List.length_take]; omega
  refine ⟨some ⟨g, 0, none⟩, c, by rw [hl], by omega, (fun h => by cases h), fun h0 => ?_⟩
  obtain ⟨b, o, cur, f, e, hg, hc⟩ := h3 (by omega)
  refine ⟨b, o, cur, f, e, hg, fun i hi => ?_⟩
  rw [hc i (by omega)]
  simp only [List.getD_eq_getElem?_getD]
  rw [List.getElem?_take, if_pos (by omega)]

/-- A map, the box of its pointer, the box of a number, the box of the answer. -/
def Kit (w wr : World) (b mb sb rb : Nat) (stop : Int) (M : SM) : Prop :=
  One w wr b M ∧ Boxed wr mb 26 (.pointer (some ⟨b, 0, none⟩)) ∧ Boxed wr sb 3 (.int .i64 stop) ∧ Boxed wr rb 4 (.bool false) ∧ w.heap.size ≤ mb ∧ w.heap.size ≤ sb ∧ w.heap.size ≤ rb
section
variable {w wr w' : World} {b mb sb rb : Nat} {stop : Int} {M : SM}
theorem Kit.bel (h : Kit w wr b mb sb rb stop M) : Below w.heap.size w wr := h.1.bel
theorem Kit.kinds {T : List TypeId} {M' : SM} (h : Kit w wr b mb sb rb stop M) (ho : One w w' b M') (hk : Kinds T wr w') (h1 : 26 ∉ T) (h2 : 3 ∉ T) (h3 : 4 ∉ T) : Kit w w' b mb sb rb stop M' :=
  ⟨ho, hk _ _ _ _ h1 h.2.1, hk _ _ _ _ h2 h.2.2.1, hk _ _ _ _ h3 h.2.2.2.1, h.2.2.2.2⟩
theorem Kit.below (h : Kit w wr b mb sb rb stop M) (hb : Below wr.heap.size wr w') : Kit w w' b mb sb rb stop M := h.kinds (T := []) (h.1.below hb) (Kinds.below hb) (by simp) (by simp) (by simp)
theorem Kit.put (h : Kit w wr b mb sb rb stop M) (hT : Tab w) (key v : ByteArray) (hk : key.size < 140737488355328) :
    Calls Tryd.prog 11 #[.pointer (some ⟨b, 0, none⟩), .string key, .string v] wr fun e w' => e = .returned (.tuple #[.bool (M.put key (.string v) (.string ⟨#[]⟩)).1, .int .i64 ((M.put key (.string v) (.string ⟨#[]⟩)).2.1 : Nat)]) ∧ Kit w w' b mb sb rb stop (M.put key (.string v) (.string ⟨#[]⟩)).2.2 := by
  refine (h.1.put hT key v hk).mono ?_
  rintro e w' ⟨rfl, h1, h2⟩
  exact ⟨rfl, h.kinds h1 h2 (by decide) (by decide) (by decide)⟩
/-- A box of rows of the call's own is turned. -/
theorem Kit.turn {k : Nat} {v : Value} (h : Kit w wr b mb sb rb stop M) (hk : Boxed wr k 47 v) (hkw : w.heap.size ≤ k) (hb : But [k] wr w') : Kit w w' b mb sb rb stop M :=
  h.kinds (h.1.other (by decide) hk hkw hb) (Kinds.one hk hb) (by decide) (by decide) (by decide)
end

set_option maxRecDepth 100000 in
set_option maxHeartbeats 8000000 in
theorem walkAll_any (k0 k1 : Int) (p : Option Addr) (n c : Nat) (xs : List Act') (hlen : xs.length = n) (stop : Int) (w : World) (hT : Tab w) (_hk0 : 0 ≤ k0 ∧ k0 ≤ 18446744073709551615) (_hk1 : 0 ≤ k1 ∧ k1 ≤ 18446744073709551615) (hX : HasA w (.slice p n c) xs) (hn : (n : Int) ≤ 9223372036854775807) (_hstop : -9223372036854775808 ≤ stop ∧ stop ≤ 9223372036854775807) :
    Calls Tryd.prog 5 #[.agg #[.int .u64 k0, .int .u64 k1], .slice p n c, .int .i64 stop] w fun e w' => e = .returned (.bool true) ∧ Below w.heap.size w w' := by
  have hw0 := hT.1
  have hlives := fun (W : World) (hW : Below w.heap.size w W) => lives_any W (hT.below hW hw0)
  refine (callsIn_wide (n := 9)).1 ?_
  refine callsIn_of_wp_marks Tryd.func5 rfl trivial ?_ rfl
  simp only [Tryd.ntmps5, List.size_toArray, List.length_cons, List.length_nil, Nat.reduceAdd, Nat.reduceSub, Array.replicate_succ, Array.replicate_zero, List.push_toArray, List.append_toArray, List.nil_append, List.cons_append]
  have q1 := Boxed.new (w.alloc (.cells #[.int .u64 k0, .int .u64 k1] 24)) 3 (.int .i64 stop)
  rw [World.size_alloc] at q1
  have q2 := Boxed.new ((w.alloc (.cells #[.int .u64 k0, .int .u64 k1] 24)).alloc (.cells #[.int .i64 stop] 3)) 4 (.bool false)
  rw [World.size_alloc, World.size_alloc] at q2
  replace q1 := q1.alloc (.cells #[.bool false] 4)
  have hB0 : Below w.heap.size w (((w.alloc (.cells #[.int .u64 k0, .int .u64 k1] 24)).alloc (.cells #[.int .i64 stop] 3)).alloc (.cells #[.bool false] 4)) := (((Below.refl _ w).alloc (Nat.le_refl _) _).alloc (by simp) _).alloc (by simp; omega) _
  have hnil := fn_nil_s
  gi_wp2_with fail
  generalize hsb : w.heap.size + 1 = sb at *
  generalize hrb : sb + 1 = rb at *
  generalize ((w.alloc (.cells #[.int .u64 k0, .int .u64 k1] 24)).alloc (.cells #[.int .i64 stop] 3)).alloc (.cells #[.bool false] 4) = X0 at *
  refine ⟨trivial, (callsIn_wide.2 (new_any_s k0 k1 0 X0 (by omega) (by omega) (by decide))).mono ?_⟩
  rintro e X1 ⟨b, bw, bs, rfl, hl1, g1, g2, g3, hb1⟩
  rw [show (needI 0).toNat = 1 by decide] at hl1
  have hone := one_new hB0 hl1 (by decide) g1 g2 g3 hb1
  have hM0 : (SM.empty k0 k1 (.string ⟨#[]⟩) 1).n = 0 := rfl
  have q1' : Boxed X1 sb 3 (.int .i64 stop) := (hb1.block _ q1.lt).trans q1
  have q2' : Boxed X1 rb 4 (.bool false) := (hb1.block _ q2.lt).trans q2
  have q3 := Boxed.new X1 26 (.pointer (some ⟨b, 0, none⟩))
  have hbA : Below X1.heap.size X1 (X1.alloc (.cells #[.pointer (some ⟨b, 0, none⟩)] 26)) := (Below.refl _ _).alloc (Nat.le_refl _) _
  have hk : Kit w (X1.alloc (.cells #[.pointer (some ⟨b, 0, none⟩)] 26)) b X1.heap.size sb rb stop (SM.empty k0 k1 (.string ⟨#[]⟩) 1) :=
    ⟨hone.below hbA, q3, (hbA.block _ q1'.lt).trans q1', (hbA.block _ q2'.lt).trans q2', hone.bel.size, by omega, by omega⟩
  clear hl1 g1 g2 g3 hb1 hone q1 q2 q1' q2' q3 hbA hB0
  generalize SM.empty k0 k1 (.string ⟨#[]⟩) 1 = M0 at *
  have cm := hk.2.1.cell
  gi_wp2_with fail
  generalize X1.alloc (.cells #[.pointer (some ⟨b, 0, none⟩)] 26) = X2 at *
  generalize X1.heap.size = mb at *
  refine ⟨trivial, (callsIn_wide.2 (few_any p n c xs hlen X2 (hX.below hk.bel (Nat.le_refl _)) hn)).mono ?_⟩
  rintro e X3 ⟨r1, rfl, hr1, hb3⟩
  replace hk := hk.below hb3
  clear hb3 cm
  have cm := hk.2.1.cell
  cases r1 with
  | false =>
    have cr := hk.2.2.2.1.cell
    gi_wp2_with fail
    refine ⟨trivial, (callsIn_wide.2 (hlives X3 hk.bel)).mono ?_⟩
    rintro e X4 ⟨rfl, hb4⟩
    replace hk := hk.below hb4
    have cr := hk.2.2.2.1.cell
    have fr := hk.2.2.2.1.frozen
    gi_wp2
    exact ⟨_, results_cell1 rfl _ _ _ ⟨rb, 0, none⟩ _ rfl (load_bool rb (.bool true) _ (World.cell?_setCell_same' _ _ _ (by rw [cr]; rfl))), rfl, hk.bel.setCell (p := ⟨rb, 0, none⟩) (by show w.heap.size ≤ rb; omega) _⟩
  | true =>
    have hf1 := few_len (hr1 rfl)
    rw [hlen] at hf1
    clear hr1 hlen
    gi_wp2
    gi_loopw [34] (fun t wr => ∃ (j : Nat) (M : SM), j ≤ n ∧ t = .int .i64 (j : Nat) ∧ M.n ≤ j ∧ Kit w wr b mb sb rb stop M) (fun t _ => n - (intOf t).toNat)
    case atStart => exact ⟨0, M0, by omega, rfl, by omega, hk⟩
    case round =>
      obtain ⟨j, M, hj, rfl, hnj, hk⟩ := hrel
      clear cm
      by_cases hlt : j < n
      · obtain ⟨bb, oo, rfl, hbb, hcc, d1, d2, d3, z1, z2⟩ := act_at hX hk.bel hlt
        generalize xs.getD j default = act at *
        obtain ⟨kd, ky, vl⟩ := act
        dsimp only at d1 d2 d3 z1 z2
        have hA := heap_alloc_new wr (.cells #[.int .i64 kd, .string ky, .string vl] 33)
        have ha := hk.below ((Below.refl _ wr).alloc (Nat.le_refl _) (.cells #[.int .i64 kd, .string ky, .string vl] 33))
        clear hk
        have cm := ha.2.1.cell
        obtain ⟨_, _, _, i4⟩ := inv_put ha.1.2.1 (key := ky) (v := .string vl) (z := (.string ⟨#[]⟩)) (isV_string _) (isV_string _) (by omega)
        obtain ⟨_, _, i7, _⟩ := i4 (by omega)
        have hn' : (M.put ky (.string vl) (.string ⟨#[]⟩)).2.2.n ≤ j + 1 := by rw [i7]; split <;> omega
        clear i4 i7
        gi_wp2_with fail
        generalize wr.alloc (.cells #[.int .i64 kd, .string ky, .string vl] 33) = Wa at *
        generalize wr.heap.size = ab at *
        refine ⟨trivial, (callsIn_wide.2 (ha.put hT ky vl (by omega))).mono ?_⟩
        rintro e w5 ⟨rfl, h5⟩
        clear ha d1 d2 d3 hA cm
        generalize (M.put ky (.string vl) (.string ⟨#[]⟩)).2.2 = M' at *
        generalize (M.put ky (.string vl) (.string ⟨#[]⟩)).2.1 = er at *
        generalize (M.put ky (.string vl) (.string ⟨#[]⟩)).1 = is at *
        gi_wp2
        go_roundw
        case rel => exact ⟨j + 1, M', by omega, by simp, hn', h5⟩
        case measure => simp only [intOf]; omega
      · obtain rfl : n = j := by omega
        clear hlt hj hX
        have cm := hk.2.1.cell
        gi_wp2_with fail
        refine ⟨trivial, (callsIn_wide.2 (all_any_s _ wr)).mono ?_⟩
        rintro e X4 ⟨rfl, rfl⟩
        gi_wp2
        obtain ⟨t1, t2, t3, hB5⟩ := three_new wr wr.heap.size rfl (.cells #[.pointer (some ⟨b, 0, none⟩)] 26) (.cells #[.slice none 0 0] 47) (.cells #[.slice none 0 0] 47)
        have hz5 : (((wr.alloc (.cells #[.pointer (some ⟨b, 0, none⟩)] 26)).alloc (.cells #[.slice none 0 0] 47)).alloc (.cells #[.slice none 0 0] 47)).heap.size = wr.heap.size + 3 := by simp
        have hk5 := hk.below hB5
        have hI := hk.1.2.1
        obtain ⟨⟨bw, bs, hL, _, _, _⟩, _⟩ := id hk.1
        have hlt := hL.lt
        have hL5 := hL.below hB5 (Nat.le_refl _)
        have hzw := hk.bel.size
        have hsr : sb < wr.heap.size ∧ rb < wr.heap.size ∧ mb < wr.heap.size := ⟨hk.2.2.1.lt, hk.2.2.2.1.lt, hk.2.1.lt⟩
        have hkl := keys_len hI
        clear hL hk hB5 cm hnil
        generalize (((wr.alloc (.cells #[.pointer (some ⟨b, 0, none⟩)] 26)).alloc (.cells #[.slice none 0 0] 47)).alloc (.cells #[.slice none 0 0] 47)) = X5 at *
        generalize wr.heap.size = s at *
        have hseq1 := all1_seq b bw bs s (s + 1) M X5 (hT.below hk5.bel hw0) hL5 hI t1 (by omega) (by omega) (by omega)
        obtain ⟨i0, hi0, hz0, hz1, hz2⟩ := info_parts infoT6
        refine both_end (fun X => But [s + 1 + 1] X5 X ∧ X.heap[X5.heap.size]? = some (.deferred (some [])) ∧ ∃ v pt, Boxed X (s + 1 + 1) 47 v ∧ OwnsT X X5.heap.size v pt ∧ pt <+: M.keys) ?first ?next
        case first =>
          refine range_seqV (m := 7) (gf := 47) (fb := #[]) (lb := #[.pointer (some ⟨s, 0, none⟩)]) rfl (enters_of Tryd.func47 (by kernel_rfl) rfl)
            hseq1 (by omega) (fun _ => rfl)
            (fun B pre X => But [s + 1 + 1] X5 X ∧ ∃ v, Boxed X (s + 1 + 1) 47 v ∧ OwnsT X B v (pre.map Prod.fst))
            (fun B c pre X => c = .exit 2 ∧ But [s + 1 + 1] X5 X ∧ ∃ v pt, Boxed X (s + 1 + 1) 47 v ∧ OwnsT X B v pt ∧ pt <+: M.keys)
            ?hI ?hIx ?h0 ?ab ?done ?stop
          case hI =>
            rintro B pre X Y hB ⟨d0, v, d1, d2⟩ ho
            exact ⟨d0.outside ho (Nat.le_refl _), v, ho.box d1 (.inl (by omega)), d2.outside ho⟩
          case hIx =>
            rintro B c pre X Y hB ⟨rfl, d0, v, pt, d1, d2, d3⟩ ho
            exact ⟨rfl, d0.outside ho (Nat.le_refl _), v, pt, ho.box d1 (.inl (by omega)), d2.outside ho, d3⟩
          case h0 =>
            intro X hX _
            exact ⟨But.of_below hX (Nat.le_refl _), _, (hX.block _ (by omega)).trans t3, World.ownsRow_nil _ _ _ _⟩
          case ab =>
            apply Exists.intro
            constructor
            · intro l x X K hK
              have hsem := @Oper.semAt_some l
              gi_wp2
              exact hK
            · rintro l B pre ⟨xk, xv⟩ X hB hBX hpre ⟨d0, v, d1, d2⟩
              have hsem := @Oper.semAt_some l
              have hpl := hpre.length_le
              have hpk := pre_keys hpre
              rw [List.length_append, List.length_singleton] at hpl
              have hpl2 : M.pairs.length = M.n := by unfold SM.pairs; rw [List.length_map, hkl]
              have qs : Boxed X sb 3 (.int .i64 stop) := (d0.block sb (by omega) (by simp; omega)).trans hk5.2.2.1
              have e0 := d1.cell
              have e2 := qs.cell
              have hml : (pre.map Prod.fst).length = pre.length := List.length_map _
              obtain ⟨pp, cc, rfl⟩ : ∃ pp cc, v = .slice pp pre.length cc := by
                rcases d2.2 with ⟨rfl, hn⟩ | ⟨gg, cap, cur, rfl, _⟩
                · exact ⟨none, 0, by rw [← hml, hn]⟩
                · exact ⟨_, _, by rw [hml]⟩
              by_cases hse : (pre.length : Int) = stop
              · have hse' : ((pre.length : Int) == stop) = true := beq_iff_eq.2 hse
                gi_wp2
                refine ⟨Keeps.refl _ _ _, Keeps.refl _ _ _, rfl, d0, _, _, d1, d2, ?_⟩
                rw [List.map_append] at hpk
                exact (List.prefix_append _ _).trans hpk
              · have hse' : ((pre.length : Int) == stop) = false := beq_eq_false_iff_ne.2 hse
                gi_wp2_with (gi_at_builtin; refine wpListIn_append_own _ rfl _ _ 47 rfl B 9 i0 (.string ⟨#[]⟩) 1 16 Tryd.underlying47 hi0 hz0 hz1 hz2 rfl (by decide) _ _ _ rfl (World.ownsRow.alloc d2 _) ⟨X.heap.size, 0, none⟩ 1 1 [.string xk] rfl rfl (new_one _ _ _) (by simp [Value.oneCell']) (by unfold maxLen; omega) (by omega) (by simp; omega) ?_; intro v' w1 hown' hgrow _; obtain ⟨g', cap', rfl⟩ := ownsRow_succ hown'; have hbA := But.append (k := s + 1 + 1) (v' := .slice (some ⟨g', 0, none⟩) ((pre.map Prod.fst).length + 1) cap') d0 hgrow (fun j hj => by have := (World.ownsRow.lt d2 j hj).1; omega) (by simp); obtain ⟨hv1, hv2, hr2, hb2, hk2⟩ := boxed_append d1 (by decide) d2 hBX hown' hgrow; have hc1 := hv1.cell; have hf1 := hv1.frozen)
                simp only [hml] at hbA hv2 hr2 hk2
                refine ⟨hk2 _ _ (by omega) (by omega), hk2 _ _ (Nat.le_refl _) (by omega), hbA, _, hv2, ?_⟩
                unfold OwnsT
                rw [show textsV ((pre ++ [(xk, xv)]).map Prod.fst) = textsV (pre.map Prod.fst) ++ [.string xk] by simp [textsV], List.length_map, List.length_append, List.length_singleton]
                exact hr2
          case done =>
            rintro B X hB ⟨d0, v, d1, d2⟩ hD
            exact ⟨rfl, d0, hD, v, _, d1, d2.mono (by omega), pre_keys (List.prefix_refl _)⟩
          case stop =>
            rintro B c pre X hB hpre ⟨rfl, d0, v, pt, d1, d2, d3⟩ hD
            exact wpIn_exit ⟨rfl, rfl, d0, hD, v, pt, d1, d2.mono (by omega), d3⟩
        case next =>
          rintro X6 ⟨d0, hD1, vp, pt, d1, d2, hpt⟩
          have hk6 := hk5.turn t3 (by omega) d0
          have hL6 := hL5.other (by decide) t3 d0
          have t1' : Boxed X6 s 26 (.pointer (some ⟨b, 0, none⟩)) := (d0.block s (by omega) (by simp; omega)).trans t1
          have t2' : Boxed X6 (s + 1) 47 (.slice none 0 0) := (d0.block (s + 1) (by omega) (by simp)).trans t2
          have hz6 := d0.size
          have hD1l : X5.heap.size < X6.heap.size := (Array.getElem?_eq_some_iff.1 hD1).1
          have hseq2 := all1_seq b bw bs s (s + 1) M X6 (hT.below hk6.bel hw0) hL6 hI t1' (by omega) (by omega) (by omega)
          clear hseq1 hk5 hL5 t1 t2 t3 d0
          gi_wp2
          refine range_seqV (m := 7) (gf := 47) (fb := #[]) (lb := #[.pointer (some ⟨s, 0, none⟩)]) rfl (enters_of Tryd.func47 (by kernel_rfl) rfl)
            hseq2 (by omega) (fun _ => rfl)
            (fun B pre X => But [s + 1] X6 X ∧ ∃ v, Boxed X (s + 1) 47 v ∧ OwnsT X B v (pre.map Prod.fst))
            (fun _ _ _ _ => False)
            ?hI ?hIx ?h0 ?ab ?done ?stop
          case hI =>
            rintro B pre X Y hB ⟨d0, v, d1, d2⟩ ho
            exact ⟨d0.outside ho (Nat.le_refl _), v, ho.box d1 (.inl (by omega)), d2.outside ho⟩
          case hIx => exact fun _ _ _ _ _ _ h _ => h
          case h0 =>
            intro X hX _
            exact ⟨But.of_below hX (Nat.le_refl _), _, (hX.block _ (by omega)).trans t2', World.ownsRow_nil _ _ _ _⟩
          case stop => exact fun _ _ _ _ _ _ h _ => h.elim
          case ab =>
            apply Exists.intro
            constructor
            · intro l x X K hK
              have hsem := @Oper.semAt_some l
              gi_wp2
              exact hK
            · rintro l B pre ⟨xk, xv⟩ X hB hBX hpre ⟨d0, v, d1, d2⟩
              have hsem := @Oper.semAt_some l
              have hpl := hpre.length_le
              obtain ⟨hxk, hxv⟩ := pair_in hpre
              rw [List.length_append, List.length_singleton] at hpl
              have hpl2 : M.pairs.length = M.n := by unfold SM.pairs; rw [List.length_map, hkl]
              have hkX := hk6.turn t2' (by omega) d0
              have hget := hkX.1.get hT xk (keys_size hI hxk)
              rw [keys_has hI hxk, ← hxv] at hget
              have cm := hkX.2.1.cell
              gi_wp2_with fail
              refine ⟨trivial, (callsIn_wide.2 hget).mono ?_⟩
              rintro e Y ⟨rfl, hbY⟩
              have dY := d0.trans (But.of_below hbY (Nat.le_refl _))
              have d1Y : Boxed Y (s + 1) 47 v := (hbY.block _ d1.lt).trans d1
              have d2Y := d2.below hbY (Nat.le_refl _)
              have hzY := hbY.size
              have hBY : B ≤ Y.heap.size := by omega
              have hd0z := d0.size
              have hKY : ∀ lo hi, hi ≤ B → Keeps lo hi X Y := fun lo hi h => Keeps.of_below hbY (by omega)
              have e0 := d1Y.cell
              have hml : (pre.map Prod.fst).length = pre.length := List.length_map _
              obtain ⟨pp, cc, rfl⟩ : ∃ pp cc, v = .slice pp pre.length cc := by
                rcases d2Y.2 with ⟨rfl, hn⟩ | ⟨gg, cap, cur, rfl, _⟩
                · exact ⟨none, 0, by rw [← hml, hn]⟩
                · exact ⟨_, _, by rw [hml]⟩
              clear hget d1 d2 d0 cm hbY hkX
              gi_wp2_with (gi_at_builtin; refine wpListIn_append_own _ rfl _ _ 47 rfl B 9 i0 (.string ⟨#[]⟩) 1 16 Tryd.underlying47 hi0 hz0 hz1 hz2 rfl (by decide) _ _ _ rfl (World.ownsRow.alloc d2Y _) ⟨Y.heap.size, 0, none⟩ 1 1 [.string xk] rfl rfl (new_one _ _ _) (by simp [Value.oneCell']) (by unfold maxLen; omega) (by omega) (by simp; omega) ?_; intro v' w1 hown' hgrow _; obtain ⟨g', cap', rfl⟩ := ownsRow_succ hown'; have hbA := But.append (k := s + 1) (v' := .slice (some ⟨g', 0, none⟩) ((pre.map Prod.fst).length + 1) cap') dY hgrow (fun j hj => by have := (World.ownsRow.lt d2Y j hj).1; omega) (by simp); obtain ⟨hv1, hv2, hr2, hb2, hk2⟩ := boxed_append d1Y (by decide) d2Y hBY hown' hgrow; have hc1 := hv1.cell; have hf1 := hv1.frozen)
              simp only [hml] at hbA hv2 hr2 hk2
              refine ⟨(hKY _ _ (by omega)).trans (hk2 _ _ (by omega) (by omega)), (hKY _ _ (Nat.le_refl _)).trans (hk2 _ _ (Nat.le_refl _) (by omega)), hbA, _, hv2, ?_⟩
              unfold OwnsT
              rw [show textsV ((pre ++ [(xk, xv)]).map Prod.fst) = textsV (pre.map Prod.fst) ++ [.string xk] by simp [textsV], List.length_map, List.length_append, List.length_singleton]
              exact hr2
          case done =>
            rintro B X hB ⟨d0, v, d1', d2'⟩ hD
            have hkX := hk6.turn t2' (by omega) d0
            have hpk : M.pairs.map Prod.fst = M.keys := by unfold SM.pairs; rw [List.map_map]; simp [Function.comp_def]
            rw [hpk] at d2'
            have dp : Boxed X (s + 1 + 1) 47 vp := (d0.block (s + 1 + 1) (by omega) (by simp)).trans d1
            have dpo := d2.off d0 (by intro k hk; simp only [List.mem_singleton] at hk; subst hk; exact d2.apart t2' (by decide))
            have hD1' : X.heap[X5.heap.size]? = some (.deferred (some [])) := (d0.block _ hD1l (by simp; omega)).trans hD1
            have hpl := hpt.length_le
            have hpe : pt = M.keys.take pt.length := List.prefix_iff_eq_take.1 hpt
            have hzX := d0.size
            obtain ⟨pl, cl, rfl, hll, _, _⟩ := id d2'.has
            obtain ⟨pq, cq, rfl, hlq, _, _⟩ := id dpo.has
            have c1 := d1'.cell
            have c2 := dp.cell
            have c3 := hkX.2.1.cell
            have hm := hkX.2.1.lt
            have hzz : s + 1 < X.heap.size ∧ s + 1 + 1 < X.heap.size ∧ mb < X.heap.size := ⟨by omega, by omega, hm⟩
            clear hseq2 hk6 hL6 t1' t2' d0 d1 d2 hD1 hpk
            gi_wp2
            refine wpIn_wide.2 (wp_region_noPanic ?_)
            have qr := hkX.2.2.2.1
            have hne : s + 1 ≠ rb ∧ s + 1 + 1 ≠ rb ∧ mb ≠ rb := ⟨by omega, by omega, by rintro rfl; have := hkX.2.1; unfold Boxed at this qr; rw [qr] at this; simp at this⟩
            have hrl := RowT.of_owns d2'
            have hrp := RowT.of_owns dpo
            have s0 : Reads X (s + 1) (s + 1 + 1) mb rb (.slice pl M.keys.length cl) (.slice pq pt.length cq) (.pointer (some ⟨b, 0, none⟩)) X.drew := ⟨c1, c2, c3, (But.refl _ _).drew, false, qr⟩
            have hKeys : ∀ W, Reads X (s + 1) (s + 1 + 1) mb rb (.slice pl M.keys.length cl) (.slice pq pt.length cq) (.pointer (some ⟨b, 0, none⟩)) W → Calls Tryd.prog 20 #[.pointer (some ⟨b, 0, none⟩)] W fun e w' => ∃ g, e = .returned (.slice (some ⟨g, 0, none⟩) M.n M.n) ∧ RowT w' (.slice (some ⟨g, 0, none⟩) M.n M.n) M.keys ∧ Below W.heap.size W w' := fun W h => (hkX.1.other (by decide) qr (by omega) h.2.2.2.1).keys hT
            have hTexts : ∀ W g, RowT W (.slice (some ⟨g, 0, none⟩) M.n M.n) M.keys → Reads X (s + 1) (s + 1 + 1) mb rb (.slice pl M.keys.length cl) (.slice pq pt.length cq) (.pointer (some ⟨b, 0, none⟩)) W → Calls Tryd.prog 23 #[.slice pl M.keys.length cl, .slice (some ⟨g, 0, none⟩) M.n M.n] W fun e w' => e = .returned (.bool true) ∧ Below W.heap.size W w' := fun W g hr h => texts_same _ _ M.keys W (hrl.kinds (Kinds.one qr h.2.2.2.1) (by decide)).has hr.has (by omega)
            have hCuts : ∀ W u, RowT X u pt → Reads X (s + 1) (s + 1 + 1) mb rb (.slice pl M.keys.length cl) (.slice pq pt.length cq) (.pointer (some ⟨b, 0, none⟩)) W → Calls Tryd.prog 23 #[.slice pq pt.length cq, u] W fun e w' => e = .returned (.bool true) ∧ Below W.heap.size W w' := fun W u hu h => texts_same _ _ pt W (hrp.kinds (Kinds.one qr h.2.2.2.1) (by decide)).has (hu.kinds (Kinds.one qr h.2.2.2.1) (by decide)).has (by omega)
            have hLives : ∀ W, Reads X (s + 1) (s + 1 + 1) mb rb (.slice pl M.keys.length cl) (.slice pq pt.length cq) (.pointer (some ⟨b, 0, none⟩)) W → Calls Tryd.prog 10 #[] W fun e w' => e = .returned (.bool true) ∧ Below W.heap.size W w' ∧ ∃ x, Boxed w' rb 4 (.bool x) := fun W h => (hlives W (hkX.1.other (by decide) qr (by omega) h.2.2.2.1).bel).mono (by
              rintro e w' ⟨rfl, hb⟩
              obtain ⟨_, _, _, _, x, hx⟩ := h
              exact ⟨rfl, hb, x, (hb.block _ hx.lt).trans hx⟩)
            unfold Reads at s0 hKeys hTexts hCuts hLives
            generalize M.keys = ks at *
            clear hi0 hz0 hz1 hz2 hkl
            rcases d2'.2 with ⟨hv, hn0⟩ | ⟨g, cap, cur, hv, _⟩
            · simp only [Value.slice.injEq] at hv
              obtain ⟨rfl, _, rfl⟩ := hv
              have hp0 : pt = [] := List.eq_nil_of_length_eq_zero (by omega)
              have hk0' : ks = [] := List.eq_nil_of_length_eq_zero (by omega)
              subst hp0
              subst hk0'
              have hcut : RowT X (.slice none 0 0) [] := RowT.nil0 X
              clear hpe hpl hll hlq
              go_region_held3 (fun w' => w'.cell? ⟨s + 1, 0, none⟩ = some (.slice none ([] : List ByteArray).length 0) ∧ w'.cell? ⟨s + 1 + 1, 0, none⟩ = some (.slice pq ([] : List ByteArray).length cq) ∧ w'.cell? ⟨mb, 0, none⟩ = some (.pointer (some ⟨b, 0, none⟩)) ∧ But [rb] X w' ∧ ∃ x, Boxed w' rb 4 (.bool x))
                (first | exact s0 | exact reads_keep hzz (by assumption) (by assumption) | exact reads_store hne true (by assumption))
                (first
                  | (go_at_call 20; with_reducible refine Calls.mono (hKeys _ (by assumption)) ?_; rintro e w7 ⟨g7, rfl, hrow7, hb7⟩)
                  | (go_at_call 23; with_reducible refine Calls.mono (hTexts _ _ hrow7 (by assumption)) ?_; rintro e w8 ⟨rfl, hb8⟩)
                  | (go_at_call 23; with_reducible refine Calls.mono (hCuts _ _ hcut (by assumption)) ?_; rintro e w9 ⟨rfl, hb9⟩)
                  | (go_at_call 10; with_reducible refine Calls.mono (hLives _ (by assumption)) ?_; rintro e w10 ⟨rfl, hb10, xF, hxF⟩; have crF := hxF.cell; have frF := hxF.frozen))
              have hF : Reads X (s + 1) (s + 1 + 1) mb rb (.slice none ([] : List ByteArray).length 0) (.slice pq ([] : List ByteArray).length cq) (.pointer (some ⟨b, 0, none⟩)) (w10.setCell ⟨rb, 0, none⟩ (.bool true)) := by assumption
              have hcF : (w10.setCell ⟨rb, 0, none⟩ (.bool true)).cell? ⟨rb, 0, none⟩ = some (.bool true) := World.cell?_setCell_same' _ _ _ (by rw [crF]; rfl)
              have hbF := hF.2.2.2.1
              generalize w10.setCell ⟨rb, 0, none⟩ (.bool true) = Z at *
              have hZ6 : Z.heap[X6.heap.size]? = some (.deferred (some [])) := (hbF.block _ (Array.getElem?_eq_some_iff.1 hD).1 (by simp; omega)).trans hD
              have hZ5 : Z.heap[X5.heap.size]? = some (.deferred (some [])) := (hbF.block _ (Array.getElem?_eq_some_iff.1 hD1').1 (by simp; omega)).trans hD1'
              have hBZ : Below w.heap.size w Z := hkX.bel.trans (hbF.below (by simp; omega) hkX.bel.size)
              refine NoPanic.normal ?_
              gi_wp2
              refine ⟨by simp, .inl ⟨_, _, rfl, run_takeDeferred hZ6, ?_⟩⟩
              have hZ5' : (Z.putObj X6.heap.size (.deferred none)).heap[X5.heap.size]? = some (.deferred (some [])) := (World.putObj_heap_other (by omega)).trans hZ5
              rw [hz5] at hZ5'
              refine ⟨by simp, .inl ⟨_, _, rfl, run_takeDeferred hZ5', ?_⟩⟩
              have hcE : ((Z.putObj X6.heap.size (.deferred none)).putObj (s + 3) (.deferred none)).cell? ⟨rb, 0, none⟩ = some (.bool true) := ((World.cell?_of_block (a := ⟨rb, 0, none⟩) (World.putObj_heap_other (by show rb ≠ s + 3; omega))).trans (World.cell?_of_block (a := ⟨rb, 0, none⟩) (World.putObj_heap_other (by show rb ≠ X6.heap.size; omega)))).trans hcF
              have hB6 : Below w.heap.size w (Z.putObj X6.heap.size (.deferred none)) := hBZ.trans ((Outside.putObj (B := 0) _ (Nat.le_refl _) hZ6 rfl).below (by omega) hBZ.size)
              exact ⟨_, results_cell1 rfl _ _ _ ⟨rb, 0, none⟩ _ rfl (load_bool rb (.bool true) _ hcE), rfl, hB6.trans ((Outside.putObj (B := 0) _ (Nat.le_refl _) hZ5' rfl).below (by omega) hB6.size)⟩
            · simp only [Value.slice.injEq] at hv
              obtain ⟨rfl, _, rfl⟩ := hv
              have hcut := hrl.take (k := pt.length) (by omega)
              rw [← hpe] at hcut
              clear hpe
              have hpl1 : (pt.length : Int) ≤ (ks.length : Int) := by omega
              have hpl2 : pt.length ≤ cl := by omega
              go_region_held3 (fun w' => w'.cell? ⟨s + 1, 0, none⟩ = some (.slice (some ⟨g, 0, none⟩) ks.length cl) ∧ w'.cell? ⟨s + 1 + 1, 0, none⟩ = some (.slice pq pt.length cq) ∧ w'.cell? ⟨mb, 0, none⟩ = some (.pointer (some ⟨b, 0, none⟩)) ∧ But [rb] X w' ∧ ∃ x, Boxed w' rb 4 (.bool x))
                (first | exact s0 | exact reads_keep hzz (by assumption) (by assumption) | exact reads_store hne true (by assumption))
                (first
                  | (go_at_call 20; with_reducible refine Calls.mono (hKeys _ (by assumption)) ?_; rintro e w7 ⟨g7, rfl, hrow7, hb7⟩)
                  | (go_at_call 23; with_reducible refine Calls.mono (hTexts _ _ hrow7 (by assumption)) ?_; rintro e w8 ⟨rfl, hb8⟩)
                  | (go_at_call 23; with_reducible refine Calls.mono (hCuts _ _ hcut (by assumption)) ?_; rintro e w9 ⟨rfl, hb9⟩)
                  | (go_at_call 10; with_reducible refine Calls.mono (hLives _ (by assumption)) ?_; rintro e w10 ⟨rfl, hb10, xF, hxF⟩; have crF := hxF.cell; have frF := hxF.frozen))
              have hF : Reads X (s + 1) (s + 1 + 1) mb rb (.slice (some ⟨g, 0, none⟩) ks.length cl) (.slice pq pt.length cq) (.pointer (some ⟨b, 0, none⟩)) (w10.setCell ⟨rb, 0, none⟩ (.bool true)) := by assumption
              have hcF : (w10.setCell ⟨rb, 0, none⟩ (.bool true)).cell? ⟨rb, 0, none⟩ = some (.bool true) := World.cell?_setCell_same' _ _ _ (by rw [crF]; rfl)
              have hbF := hF.2.2.2.1
              generalize w10.setCell ⟨rb, 0, none⟩ (.bool true) = Z at *
              have hZ6 : Z.heap[X6.heap.size]? = some (.deferred (some [])) := (hbF.block _ (Array.getElem?_eq_some_iff.1 hD).1 (by simp; omega)).trans hD
              have hZ5 : Z.heap[X5.heap.size]? = some (.deferred (some [])) := (hbF.block _ (Array.getElem?_eq_some_iff.1 hD1').1 (by simp; omega)).trans hD1'
              have hBZ : Below w.heap.size w Z := hkX.bel.trans (hbF.below (by simp; omega) hkX.bel.size)
              refine NoPanic.normal ?_
              gi_wp2
              refine ⟨by simp, .inl ⟨_, _, rfl, run_takeDeferred hZ6, ?_⟩⟩
              have hZ5' : (Z.putObj X6.heap.size (.deferred none)).heap[X5.heap.size]? = some (.deferred (some [])) := (World.putObj_heap_other (by omega)).trans hZ5
              rw [hz5] at hZ5'
              refine ⟨by simp, .inl ⟨_, _, rfl, run_takeDeferred hZ5', ?_⟩⟩
              have hcE : ((Z.putObj X6.heap.size (.deferred none)).putObj (s + 3) (.deferred none)).cell? ⟨rb, 0, none⟩ = some (.bool true) := ((World.cell?_of_block (a := ⟨rb, 0, none⟩) (World.putObj_heap_other (by show rb ≠ s + 3; omega))).trans (World.cell?_of_block (a := ⟨rb, 0, none⟩) (World.putObj_heap_other (by show rb ≠ X6.heap.size; omega)))).trans hcF
              have hB6 : Below w.heap.size w (Z.putObj X6.heap.size (.deferred none)) := hBZ.trans ((Outside.putObj (B := 0) _ (Nat.le_refl _) hZ6 rfl).below (by omega) hBZ.size)
              exact ⟨_, results_cell1 rfl _ _ _ ⟨rb, 0, none⟩ _ rfl (load_bool rb (.bool true) _ hcE), rfl, hB6.trans ((Outside.putObj (B := 0) _ (Nat.le_refl _) hZ5' rfl).below (by omega) hB6.size)⟩
end Go.Proofs.YtiobfdfmfgjpfaaDoor
