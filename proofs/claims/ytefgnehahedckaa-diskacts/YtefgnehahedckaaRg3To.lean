import Derived.Test.YtefgnehahedckaaRg1To
/-
  The document's own disk: sizes; Crash, begin, Sync.
-/
namespace Go.Proofs.Ytefgnehahedckaa
open Go.RowKit Go.Maps

theorem trM_length (t : List Tr) : (trM t).length = t.length := List.length_map _
theorem ref_sizes {M : DM} (hI : M.Inv) {tl tb : List Tr} (hL : trM tl = M.L) (hB : trM tb = M.buf) : tl.length ≤ 16777216 ∧ tb.length ≤ M.ops ∧ (∀ f ∈ tl, f.2.2.length + tot (trM tb) ≤ 2147483648) ∧ tot (trM tb) ≤ 1073741824 ∧ usedL (trM tb) (trM tl) ≤ 16777216 := by
  obtain ⟨z1, z2, z3⟩ := hI.sizes
  refine ⟨?_, ?_, fun f hf => ?_, by rw [hB]; exact z2, by rw [hB, hL]; exact z1⟩
  · rw [← trM_length, hL]; exact hI.count
  · rw [← trM_length, hB]; exact hI.few
  · have hm : (f.1, f.2.2) ∈ M.L := by rw [← hL]; exact trM_mem hf
    have h1 := lk_mem hI.nodup hm
    have h2 := z3 f.1
    have h3 : (lk M.L f.1).length = f.2.2.length := by
      have : lk M.L f.1 = f.2.2 := h1
      rw [this]
    rw [hB]
    omega
section
variable {w : World} {r : Nat} {S : Nat → Prop} {M : DM}
theorem rsure_at (h : RefAt w r S M) (hI : M.Inv) (ho : M.ops ≤ 1099511627776) (hS : ∀ k, w.heap.size ≤ k → S k) (N : Nat) (hN : (N : Int) ≤ 9223372036854775807) :
    Calls Try.prog 70 #[.pointer (some ⟨r, 0, none⟩), .int .i64 (N : Nat)] w fun e w' => (∃ v, e = .returned v) ∧ RefAt w' r S { M.crash N with off := M.off } ∧ Turn S w w' := by
  obtain ⟨vl, vb, tl, tb, n0, h1, hL, hB, hn⟩ := h
  obtain ⟨z1, z2, z3, z4, z5⟩ := ref_sizes hI hL hB
  refine (rsure_any h1 hS N hN (by rw [hL]; exact hI.nodup) (fun f hf => ?_) (by omega) (by omega) (fun f hf => by have := z3 f hf; omega) (by omega)).mono ?_
  · have hm : (f.1, f.2.2) ∈ M.buf := by rw [← hB]; exact trM_mem hf
    rw [hL]; exact hI.mem _ hm
  · rintro e w' ⟨he, ⟨tl', h2, h3⟩, ht⟩
    refine ⟨he, ⟨_, _, tl', [], n0, h2, ?_, rfl, hn⟩, ht⟩
    rw [h3, hL, hB]
    unfold fallL DM.crash
    rw [Int.toNat_natCast]
theorem RefAt.open {w : World} {r : Nat} {S : Nat → Prop} {M : DM} (h : RefAt w r S M) : ∃ vl vb tl tb n0, RefLies w r S vl vb tl tb M.blocks M.off M.ops n0 M.keep ∧ trM tl = M.L ∧ trM tb = M.buf ∧ n0.toNat = M.n := h
set_option maxRecDepth 10000 in
theorem rcrash_any (h : RefAt w r S M) (hI : M.Inv) (ho : M.ops ≤ 1099511627776) (hS : ∀ k, w.heap.size ≤ k → S k) (k : Int) (hk : -9223372036854775808 ≤ k ∧ k ≤ 9223372036854775807) :
    Calls Try.prog 43 #[.pointer (some ⟨r, 0, none⟩), .int .i64 k] w fun e w' => (∃ v, e = .returned v) ∧ RefAt w' r S (M.crash k) ∧ Turn S w w' := by
  have hfin : Hid (∀ N : Nat, k.toNat = N → ∀ w', RefAt w' r S { M.crash N with off := M.off } → Turn S w w' → (∃ v, w'.cell? ⟨r, 3, none⟩ = some (.bool v)) ∧ w'.frozen? ⟨r, 3, none⟩ = false ∧ RefAt (w'.setCell ⟨r, 3, none⟩ (.bool true)) r S (M.crash k) ∧ Turn S w (w'.setCell ⟨r, 3, none⟩ (.bool true))) := by
    intro N hN w' h2 ht
    obtain ⟨vl, vb, tl, tb, n0, h1, hL, hB, hn⟩ := h2
    obtain ⟨-, -, -, c3, -⟩ := h1.cells
    refine ⟨⟨_, c3⟩, h1.free 3, ⟨vl, vb, tl, tb, n0, h1.setD 3 (.bool true) (blocks' := M.blocks) (off' := true) (ops' := M.ops) (n' := n0) (keep' := M.keep) rfl, ?_, hB, hn⟩, ht.setCell (p := ⟨r, 3, none⟩) (.inl h1.sR) _⟩
    rw [hL]
    unfold DM.crash
    rw [Int.toNat_natCast, hN]
  rcases Int.lt_or_le k 0 with hlt | hge
  · have hc := rsure_at h hI ho hS 0 (by omega)
    change Calls _ _ #[_, .int .i64 0] _ _ at hc
    have hk0 : k.toNat = 0 := by omega
    go_enter Try.func43, Try.ntmps43
    go_wp2_with fail
    refine hc.mono ?_
    rintro e w' ⟨⟨v, rfl⟩, h2, ht⟩
    obtain ⟨⟨v3, c3⟩, q3, q4, q5⟩ := hfin.out 0 hk0 w' h2 ht
    clear hc hfin h2
    go_wp2
    go_end0
    exact ⟨⟨_, rfl⟩, q4, q5⟩
  · obtain ⟨N, rfl⟩ := Int.eq_ofNat_of_zero_le hge
    have hc := rsure_at h hI ho hS N hk.2
    go_enter Try.func43, Try.ntmps43
    go_wp2_with fail
    refine hc.mono ?_
    rintro e w' ⟨⟨v, rfl⟩, h2, ht⟩
    obtain ⟨⟨v3, c3⟩, q3, q4, q5⟩ := hfin.out N (by omega) w' h2 ht
    clear hc hfin h2
    go_wp2
    go_end0
    exact ⟨⟨_, rfl⟩, q4, q5⟩
set_option maxRecDepth 10000 in
theorem rbegin_any (h : RefAt w r S M) (hO : M.Ok) (hS : ∀ k, w.heap.size ≤ k → S k) :
    Calls Try.prog 64 #[.pointer (some ⟨r, 0, none⟩)] w fun e w' => e = .returned (.bool M.begins) ∧ RefAt w' r S M.begun ∧ Turn S w w' := by
  obtain ⟨vl, vb, tl, tb, n0, h1, hL, hB, hn⟩ := h
  obtain ⟨-, -, -, -, c4, -, -⟩ := h1.cells
  have f4 := h1.free 4
  have hops := hO.ops
  have hnb := hO.n
  have h2 := h1.setD 4 (.int .i64 ((M.ops : Int) + 1)) (blocks' := M.blocks) (off' := M.off) (ops' := M.ops + 1) (n' := n0) (keep' := M.keep) rfl
  have t2 := (Turn.refl S w).setCell (p := ⟨r, 4, none⟩) (.inl h1.sR) (.int .i64 ((M.ops : Int) + 1))
  obtain ⟨-, -, -, -, -, d5, -⟩ := h2.cells
  have g5 := h2.free 5
  rcases Int.lt_or_le n0 1 with hlt | hge
  · have hb : M.begins = true := by unfold DM.begins; exact decide_eq_true (by omega)
    have e1 : M.begun = { M with ops := M.ops + 1, n := M.n - 1 } := by unfold DM.begun; rw [if_neg (by omega)]
    have hD : Hid (RefAt (w.setCell ⟨r, 4, none⟩ (.int .i64 ((M.ops : Int) + 1))) r S M.begun) := by
      show RefAt _ _ _ _
      rw [e1]
      exact ⟨vl, vb, tl, tb, n0, h2, hL, hB, by show n0.toNat = M.n - 1; omega⟩
    rw [hb]
    clear e1 hb h1 h2 hn
    go_enter Try.func64, Try.ntmps64
    go_wp2
    go_ret
    exact ⟨rfl, hD.out, t2⟩
  · by_cases h1n : n0 = 1
    · subst h1n
      have hn1 : M.n = 1 := by rw [← hn]; rfl
      have hb : M.begins = false := by unfold DM.begins; exact decide_eq_false (by omega)
      have e1 : M.begun = ({ M with ops := M.ops + 1, n := 0 } : DM).crash M.keep := by unfold DM.begun; rw [if_pos hn1]
      have h3 := h2.setD 5 (.int .i64 0) (blocks' := M.blocks) (off' := M.off) (ops' := M.ops + 1) (n' := 0) (keep' := M.keep) rfl
      have t3 := t2.setCell (p := ⟨r, 5, none⟩) (.inl h1.sR) (.int .i64 0)
      obtain ⟨-, -, -, -, -, e5, e6⟩ := h3.cells
      have hD : RefAt ((w.setCell ⟨r, 4, none⟩ (.int .i64 ((M.ops : Int) + 1))).setCell ⟨r, 5, none⟩ (.int .i64 0)) r S ({ M with ops := M.ops + 1, n := 0 } : DM) := ⟨vl, vb, tl, tb, 0, h3, hL, hB, rfl⟩
      have hi := hO.inv
      have hc := rcrash_any hD ⟨hi.rise, hi.good, hi.mem, hi.isL, hi.isW, hi.fits, hi.top, Nat.le_succ_of_le hi.few⟩ (by show M.ops + 1 ≤ _; omega) (fun k hk => hS k (Nat.le_trans t3.size hk)) M.keep hO.keep
      rw [hb]
      have e1' : Hid (M.begun = ({ M with ops := M.ops + 1, n := 0 } : DM).crash M.keep) := e1
      clear e1 hb h1 h2 h3 hn hD
      go_enter Try.func64, Try.ntmps64
      go_wp2_with fail
      refine hc.mono ?_
      rintro e w' ⟨⟨v, rfl⟩, h5, t5⟩
      clear hc
      go_wp2
      go_ret
      exact ⟨rfl, by rw [e1'.out]; exact h5, t3.trans t5⟩
    · have hb : M.begins = true := by unfold DM.begins; exact decide_eq_true (by omega)
      have e1 : M.begun = { M with ops := M.ops + 1, n := M.n - 1 } := by unfold DM.begun; rw [if_neg (by omega)]
      have h3 := h2.setD 5 (.int .i64 (n0 - 1)) (blocks' := M.blocks) (off' := M.off) (ops' := M.ops + 1) (n' := n0 - 1) (keep' := M.keep) rfl
      have t3 := t2.setCell (p := ⟨r, 5, none⟩) (.inl h1.sR) (.int .i64 (n0 - 1))
      obtain ⟨-, -, -, -, -, e5, -⟩ := h3.cells
      have hD : Hid (RefAt ((w.setCell ⟨r, 4, none⟩ (.int .i64 ((M.ops : Int) + 1))).setCell ⟨r, 5, none⟩ (.int .i64 (n0 - 1))) r S M.begun) := by
        show RefAt _ _ _ _
        rw [e1]
        exact ⟨vl, vb, tl, tb, n0 - 1, h3, hL, hB, by show (n0 - 1).toNat = M.n - 1; omega⟩
      have hne : ¬ n0 - 1 = 0 := by omega
      have hnb2 : n0 ≤ 9223372036854775807 := by omega
      rw [hb]
      clear e1 hb h1 h2 h3 hn
      go_enter Try.func64, Try.ntmps64
      go_wp2
      go_ret
      exact ⟨rfl, hD.out, t3⟩
end
end Go.Proofs.Ytefgnehahedckaa

/-
  The document's own disk: rows of files and of writes; another row in the disk's place; gone.
-/
namespace Go.Proofs.Ytefgnehahedckaa
open Go.RowKit Go.Maps

theorem elemF8 : Elem8 Try.prog 61 94 2 40 := elem8 Try.underlying61 (z := .agg #[.string ⟨#[]⟩, .slice none 0 0]) (by kernel_rfl) rfl (by decide)
theorem elemQ8 : Elem8 Try.prog 62 96 2 40 := elem8 Try.underlying62 (z := .agg #[.string ⟨#[]⟩, .slice none 0 0]) (by kernel_rfl) rfl (by decide)
/-- A row of files or writes. -/
abbrev RowQ (w : World) (B : Nat) (e : TypeId) (v : Value) (t : List Tr) : Prop := w.ownsRow B e 2 v t.length (trs t)
/-- The bytes of files or writes. -/
def ByQ (w : World) (S : Nat → Prop) (t : List Tr) : Prop := ∀ f ∈ t, Owns w 0 5 f.2.1 f.2.2 ∧ ∀ g, f.2.1.ownBlock = some g → S g
theorem ByQ.below {w w' : World} {S : Nat → Prop} {t : List Tr} (h : ByQ w S t) (hb : Below w.heap.size w w') : ByQ w' S t := fun f hf => ⟨(h f hf).1.below hb (Nat.le_refl _), (h f hf).2⟩
theorem ByQ.sub {w : World} {S : Nat → Prop} {t t' : List Tr} (h : ByQ w S t) (hs : ∀ f ∈ t', f ∈ t) : ByQ w S t' := fun f hf => h f (hs f hf)
theorem trs_ones {w : World} {S : Nat → Prop} : ∀ {t : List Tr}, ByQ w S t → ∀ u ∈ trs t, u.oneCell' = true
  | [], _, u, hu => by cases hu
  | f :: r, h, u, hu => by
    rw [trs] at hu
    rcases List.mem_cons.1 hu with rfl | hu
    · rfl
    rcases List.mem_cons.1 hu with rfl | hu
    · obtain ⟨p, c, e⟩ := (h f List.mem_cons_self).1.shape
      rw [e]; rfl
    · exact trs_ones (h.sub fun g hg => List.mem_cons_of_mem _ hg) u hu
theorem trs_take : ∀ (t : List Tr) (i : Nat), trs (t.take i) = (trs t).take (i * 2)
  | [], i => by simp [trs]
  | f :: r, 0 => rfl
  | f :: r, i + 1 => by
    rw [List.take_succ_cons, trs, trs_take r i, trs, show (i + 1) * 2 = i * 2 + 1 + 1 by omega, List.take_succ_cons, List.take_succ_cons]
theorem trs_drop : ∀ (t : List Tr) (i : Nat), trs (t.drop i) = (trs t).drop (i * 2)
  | [], i => by simp [trs]
  | f :: r, 0 => rfl
  | f :: r, i + 1 => by
    rw [List.drop_succ_cons, trs_drop r i, trs, show (i + 1) * 2 = i * 2 + 1 + 1 by omega, List.drop_succ_cons, List.drop_succ_cons]
theorem HasR.below {w w' : World} {size m : Nat} {v : Value} {xs : List Value} (h : HasR w size v m xs) (hb : Below w.heap.size w w') : HasR w' size v m xs := by
  obtain ⟨p, c, rfl, h1, h2, h3, h4⟩ := h
  refine ⟨p, c, rfl, h1, h2, h3, fun h0 => ?_⟩
  obtain ⟨b, o, rfl, hlt, hc⟩ := h4 h0
  exact ⟨b, o, rfl, Nat.lt_of_lt_of_le hlt hb.size, fun j u hj => (hb.cell (p := ⟨b, o + j, none⟩) hlt).trans (hc j u hj)⟩
/-- The first files of a row; those behind one of them. -/
theorem hasQ_head {w : World} {e : TypeId} {g c : Nat} {t : List Tr} (h : RowQ w 0 e (.slice (some ⟨g, 0, none⟩) t.length c) t) {i : Nat} (hi : i ≤ t.length) : HasR w 2 (.slice (some ⟨g, 0, none⟩) i c) i (trs (t.take i)) := by
  obtain ⟨p, c', e1, h1, h2, h3, h4⟩ := hasR_of_owns h
  simp only [Value.slice.injEq] at e1
  obtain ⟨rfl, -, rfl⟩ := e1
  refine ⟨_, _, rfl, by omega, (fun h => by cases h), by rw [trs_length, List.length_take]; omega, fun h0 => ?_⟩
  obtain ⟨b, o, e2, hlt, hc⟩ := h4 (by omega)
  simp only [Option.some.injEq, Addr.mk.injEq, and_true] at e2
  obtain ⟨rfl, rfl⟩ := e2
  refine ⟨g, 0, rfl, hlt, fun j u hj => hc j u ?_⟩
  rw [trs_take] at hj
  have hj2 : j < i * 2 := by
    have := (List.getElem?_eq_some_iff.1 hj).1
    rw [List.length_take] at this
    omega
  rwa [List.getElem?_take, if_pos hj2] at hj
theorem hasQ_rest {w : World} {e : TypeId} {g c : Nat} {t : List Tr} (h : RowQ w 0 e (.slice (some ⟨g, 0, none⟩) t.length c) t) {i : Nat} (hi : i < t.length) :
    ∃ p : Addr, (if c = i + 1 then some (⟨g, 0, none⟩ : Addr) else some ⟨g, (i + 1) * 2, none⟩) = some p ∧ HasR w 2 (.slice (some p) (t.length - (i + 1)) (c - (i + 1))) (t.length - (i + 1)) (trs (t.drop (i + 1))) := by
  obtain ⟨p, c', e1, h1, h2, h3, h4⟩ := hasR_of_owns h
  simp only [Value.slice.injEq] at e1
  obtain ⟨rfl, -, rfl⟩ := e1
  by_cases hc : c = i + 1
  · refine ⟨⟨g, 0, none⟩, by rw [if_pos hc], _, _, rfl, by omega, (fun h => by cases h), by rw [trs_length, List.length_drop], fun h0 => by omega⟩
  · refine ⟨⟨g, (i + 1) * 2, none⟩, by rw [if_neg hc], _, _, rfl, by omega, (fun h => by cases h), by rw [trs_length, List.length_drop], fun h0 => ?_⟩
    obtain ⟨b, o, e2, hlt, hcl⟩ := h4 (by omega)
    simp only [Option.some.injEq, Addr.mk.injEq, and_true] at e2
    obtain ⟨rfl, rfl⟩ := e2
    refine ⟨g, (i + 1) * 2, rfl, hlt, fun j u hj => ?_⟩
    rw [trs_drop, List.getElem?_drop] at hj
    have := hcl _ u hj
    rwa [Nat.zero_add] at this
/-- 'append(s, x...)', s made in the region: a step of a region that draws its order. -/
theorem step_row8 {t e : TypeId} {size bytes : Nat} (E8 : Elem8 Try.prog t e size bytes) {ops : Array Oper} {o : Oper} {a : Act} {K : Act → World → Prop} {Q : Exit → Act → World → Prop} {E : Prop} (W : World) (hgd : o.guard = none) (s x : Operand)
    (ho : o.op = .call { callee := .builtin .append, args := #[s, x], argTypes := #[t, t] })
    {w6 : World} (hx : Below w6.heap.size w6 W) (v u : Value) (n m : Nat) (xs news : List Value) (hs : a.eval s = v) (hu : a.eval x = u) (hz : HasR w6 size u m news) (h1 : ∀ u ∈ news, u.oneCell' = true) (hown : W.ownsRow w6.heap.size e size v n xs) (hlen : n + m ≤ 1099511627776) (hby : (n + m) * bytes ≤ 140737488355328)
    (h : ∀ v' w', w'.ownsRow w6.heap.size e size v' (n + m) (xs ++ news) → Below w6.heap.size w6 w' → K (a.put o.dst v') w') :
    if Region.wanted o (yielded ops a.tmps) = true then Oper.wp Try.prog o a W K Q else E := by
  have hw : Region.wanted o (yielded ops a.tmps) = true := by simp [Region.wanted, hgd]
  rw [if_pos hw]
  obtain ⟨v', w', hr, h3, h2, _⟩ := run_row E8 W o.type w6.heap.size v u n m xs news (hz.below hx) h1 hown hlen hby hx.size
  unfold Oper.wp execOp
  simp only [ho, resolve, invoke, builtin, Sem.run_bind, Sem.run_pure, Result.andThen_ok, List.map_toArray, List.map_cons, List.map_nil, hs, hu, hr]
  exact h v' w' h3 (below_grown8 hx hown h2 (Nat.le_refl _) hx.size)
theorem row_none8 (w : World) (e : TypeId) (size : Nat) : (w.alloc (.cells #[] e)).drew.ownsRow w.heap.size e size (.slice (some ⟨w.heap.size, 0, none⟩) 0 0) 0 [] := ⟨by simp, .inr ⟨w.heap.size, 0, #[], rfl, Nat.le_refl _, heap_alloc_new w _, Nat.le_refl _, Nat.zero_le _, by simp, by simp⟩⟩
theorem row_none9 (w W : World) (e : TypeId) (size : Nat) (h : w.heap.size ≤ W.heap.size) : (W.alloc (.cells #[] e)).ownsRow w.heap.size e size (.slice (some ⟨W.heap.size, 0, none⟩) 0 0) 0 [] := ⟨by simp, .inr ⟨W.heap.size, 0, #[], rfl, h, heap_alloc_new W _, Nat.le_refl _, Nat.zero_le _, by simp, by simp⟩⟩
section
variable {w w' : World} {r : Nat} {S : Nat → Prop} {vl vb : Value} {tl tb : List Tr} {blocks : Nat} {off : Bool} {ops : Nat} {n keep : Int}
/-- Another row of files. -/
theorem RefLies.swapL (h : RefLies w r S vl vb tl tb blocks off ops n keep) {v : Value} {t : List Tr} (hrow : RowQ w 0 94 v t) (hs : ∀ g, v.ownBlock = some g → S g) (hby : ByQ w S t) : RefLies (w.setCell ⟨r, 1, none⟩ v) r S v vb t tb blocks off ops n keep := by
  obtain ⟨-, q2, -, q4⟩ := h.apart
  have q1 : v.ownBlock ≠ some r := row_apart hrow h.blk (by decide)
  have hk : ∀ (u : Value), u.ownBlock ≠ some r → ∀ g, u.ownBlock = some g → (w.setCell ⟨r, 1, none⟩ v).heap[g]? = w.heap[g]? := fun u hu g hg => Below.heap_setCell _ _ _ _ (fun e => hu (by rw [hg]; exact congrArg some e))
  refine ⟨?_, row_same hrow (hk _ q1), row_same h.rowB (hk _ q2), h.sR, hs, h.sB, fun f hf => ⟨row_same (hby f hf).1 (hk _ (row_apart (hby f hf).1 h.blk (by decide))), (hby f hf).2⟩, fun f hf => ⟨row_same (h.byB f hf).1 (hk _ (q4 f hf)), (h.byB f hf).2⟩⟩
  have hb := h.blk
  simp [World.setCell, Array.getElem?_modify, hb]
/-- Another row of writes, or the old one grown. -/
theorem RefLies.growB (h : RefLies w r S vl vb tl tb blocks off ops n keep) (hg : w.grownBy w' vb.ownBlock) {v : Value} {t : List Tr} (hrow : RowQ w' 0 96 v t) (hs : ∀ g, v.ownBlock = some g → S g) (hby : ByQ w' S t) : RefLies (w'.setCell ⟨r, 2, none⟩ v) r S vl v tl t blocks off ops n keep := by
  obtain ⟨q1, q2, q3, -⟩ := h.apart
  have hblk : w'.heap[r]? = _ := (hg.block r h.lt fun e => q2 e.symm).trans h.blk
  have q5 : v.ownBlock ≠ some r := row_apart hrow hblk (by decide)
  have hk : ∀ (u : Value), u.ownBlock ≠ some r → ∀ g, u.ownBlock = some g → (w'.setCell ⟨r, 2, none⟩ v).heap[g]? = w'.heap[g]? := fun u hu g hg => Below.heap_setCell _ _ _ _ (fun e => hu (by rw [hg]; exact congrArg some e))
  have hL : ∀ g, vl.ownBlock = some g → w'.heap[g]? = w.heap[g]? := fun g hg2 => hg.block g (World.ownsRow.lt h.rowL g hg2).2 fun e => rows_apart h.rowB h.rowL (by decide) e.symm hg2
  have hF : ∀ f ∈ tl, ∀ g, f.2.1.ownBlock = some g → w'.heap[g]? = w.heap[g]? := fun f hf g hg2 => hg.block g (World.ownsRow.lt (h.byL f hf).1 g hg2).2 fun e => rows_apart h.rowB (h.byL f hf).1 (by decide) e.symm hg2
  refine ⟨?_, row_same (row_same h.rowL hL) (hk _ q1), row_same hrow (hk _ q5), h.sR, h.sL, hs, fun f hf => ⟨row_same (row_same (h.byL f hf).1 (hF f hf)) (hk _ (q3 f hf)), (h.byL f hf).2⟩, fun f hf => ⟨row_same (hby f hf).1 (hk _ (row_apart (hby f hf).1 hblk (by decide))), (hby f hf).2⟩⟩
  simp [World.setCell, Array.getElem?_modify, hblk]
theorem grown_refl8 (w : World) (o : Option Nat) : w.grownBy w o := ⟨rfl, rfl, rfl, Nat.le_refl _, fun _ _ _ => rfl⟩
theorem RefLies.swapB (h : RefLies w r S vl vb tl tb blocks off ops n keep) {v : Value} {t : List Tr} (hrow : RowQ w 0 96 v t) (hs : ∀ g, v.ownBlock = some g → S g) (hby : ByQ w S t) : RefLies (w.setCell ⟨r, 2, none⟩ v) r S vl v tl t blocks off ops n keep := h.growB (grown_refl8 _ _) hrow hs hby
end
/-- Without the i-th. -/
theorem erase_filter8 : ∀ {l : List (ByteArray × List Int)} {i : Nat} {x : ByteArray}, (nms l).Nodup → (l[i]?).map Prod.fst = some x → l.take i ++ l.drop (i + 1) = l.filter fun f => decide (f.1 ≠ x)
  | [], i, x, _, h => by simp at h
  | f :: l, 0, x, hn, h => by
    have hd := List.nodup_cons.1 (by exact hn : (f.1 :: nms l).Nodup)
    have hx : f.1 = x := by simpa using h
    subst hx
    rw [List.filter_cons_of_neg (by simp)]
    show l = _
    refine (List.filter_eq_self.2 fun g hg => ?_).symm
    exact decide_eq_true fun e => hd.1 (by rw [← e]; exact List.mem_map.2 ⟨g, hg, rfl⟩)
  | f :: l, i + 1, x, hn, h => by
    have hd := List.nodup_cons.1 (by exact hn : (f.1 :: nms l).Nodup)
    have h' : (l[i]?).map Prod.fst = some x := by simpa using h
    have hx : x ∈ nms l := by
      obtain ⟨g, hg, e⟩ := Option.map_eq_some_iff.1 h'
      rw [← e]
      exact List.mem_map.2 ⟨g, List.mem_of_getElem? hg, rfl⟩
    have hne : f.1 ≠ x := fun e => hd.1 (by rw [e]; exact hx)
    rw [List.filter_cons_of_pos (by simpa using hne), List.take_succ_cons, List.drop_succ_cons, List.cons_append, erase_filter8 hd.2 h']
theorem trM_append (s t : List Tr) : trM (s ++ t) = trM s ++ trM t := List.map_append
theorem trM_take (t : List Tr) (i : Nat) : trM (t.take i) = (trM t).take i := List.map_take
theorem trM_drop (t : List Tr) (i : Nat) : trM (t.drop i) = (trM t).drop i := List.map_drop
theorem trM_filter (t : List Tr) (x : ByteArray) : trM (t.filter fun f => decide (f.1 ≠ x)) = (trM t).filter fun f => decide (f.1 ≠ x) := by
  unfold trM
  rw [List.filter_map]
  rfl
theorem trM_at {t : List Tr} {i : Nat} (h : i < t.length) : ((trM t)[i]?).map Prod.fst = some (t.getD i default).1 := by
  unfold trM
  rw [List.getElem?_map, List.getElem?_eq_getElem h, List.getD_eq_getElem?_getD, List.getElem?_eq_getElem h]
  rfl
end Go.Proofs.Ytefgnehahedckaa
