/-
  Rows of slices of bytes that a law keeps beside a disk; append as a step of a region that draws.
-/
import Derived.Test.YtefgnehahedckaaDs9
namespace Go.Proofs.Ytefgnehahedckaa
open Go.RowKit Go.Maps

/-- Bytes that lie outside of T, behind a call that turned blocks of S alone. -/
theorem HasX.move {w w' : World} {S T T' : Nat → Prop} {v : Value} {xs : List Int} (h : HasX w T v xs) (ht : Turn S w w') (hS : ∀ k, S k → T k) (hT : ∀ k, k < w.heap.size → T' k → T k) : HasX w' T' v xs := by
  obtain ⟨p, c, rfl, h1, h2, h3⟩ := h
  refine ⟨p, c, rfl, h1, h2, fun h0 => ?_⟩
  obtain ⟨b, o, rfl, hn, hb, hc⟩ := h3 h0
  exact ⟨b, o, rfl, fun hs => hn (hT b hb hs), Nat.lt_of_lt_of_le hb ht.size, fun i hi => (ht.cell (p := ⟨b, o + i, none⟩) hb fun hs => hn (hS b hs)).trans (hc i hi)⟩
theorem HasX.nil (w : World) (T : Nat → Prop) : HasX w T (.slice none 0 0) [] := ⟨_, _, rfl, Nat.le_refl _, fun _ => rfl, fun h => absurd h (Nat.lt_irrefl 0)⟩
/-- A row of slices in a block g of its own; what they hold lies outside of T. -/
structure Row8 (w : World) (T : Nat → Prop) (g : Nat) (us : List Value) (bs : List (List Int)) : Prop where
  blk : w.heap[g]? = some (.cells us.toArray 29 (0, 0))
  len : us.length = bs.length
  has : ∀ i, i < bs.length → HasX w T (us.getD i undef) (bs.getD i [])
section
variable {w w' : World} {S T T' : Nat → Prop} {g : Nat} {us : List Value} {bs : List (List Int)}
theorem Row8.lt (h : Row8 w T g us bs) : g < w.heap.size := (Array.getElem?_eq_some_iff.1 h.blk).1
theorem Row8.cell (h : Row8 w T g us bs) {i : Nat} (hi : i < bs.length) : w.cell? ⟨g, i, none⟩ = some (us.getD i undef) := by
  unfold World.cell?
  dsimp only
  rw [h.blk]
  have hi' : i < us.length := by rw [h.len]; exact hi
  simp [List.getD_eq_getElem?_getD, List.getElem?_eq_getElem hi']
theorem Row8.free (h : Row8 w T g us bs) (i : Nat) : w.frozen? ⟨g, i, none⟩ = false := by simp [World.frozen?, h.blk]
theorem Row8.move (h : Row8 w T g us bs) (ht : Turn S w w') (hS : ∀ k, S k → T k) (hg : ¬ S g) (hT : ∀ k, k < w.heap.size → T' k → T k) : Row8 w' T' g us bs :=
  ⟨(ht.block g h.lt hg).trans h.blk, h.len, fun i hi => (h.has i hi).move ht hS hT⟩
theorem Row8.set (h : Row8 w T g us bs) (hT : T g) (i : Nat) {v : Value} {xs : List Int} (hv : HasX w T v xs) : Row8 (w.setCell ⟨g, i, none⟩ v) T g (us.set i v) (bs.set i xs) := by
  have ht : Turn T w (w.setCell ⟨g, i, none⟩ v) := (Turn.refl T w).setCell (.inl hT) v
  refine ⟨?_, by rw [List.length_set, List.length_set, h.len], fun j hj => ?_⟩
  · have := h.blk
    simp [World.setCell, Array.getElem?_modify, this]
  · rw [List.length_set] at hj
    have hj' : j < us.length := by rw [h.len]; exact hj
    by_cases e : i = j
    · subst e
      have e1 : (us.set i v).getD i undef = v := by simp [List.getD_eq_getElem?_getD, hj']
      have e2 : (bs.set i xs).getD i [] = xs := by simp [List.getD_eq_getElem?_getD, hj]
      rw [e1, e2]
      exact hv.turn ht
    · have e1 : (us.set i v).getD j undef = us.getD j undef := by simp [List.getD_eq_getElem?_getD, e]
      have e2 : (bs.set i xs).getD j [] = bs.getD j [] := by simp [List.getD_eq_getElem?_getD, e]
      rw [e1, e2]
      exact (h.has j hj).turn ht
end
/-- What is taken: the disk's blocks and the two rows'. -/
def with8 (S : Nat → Prop) (ga gs : Nat) : Nat → Prop := fun k => S k ∨ k = ga ∨ k = gs
/-- A disk, and two rows of slices of bytes beside it. -/
structure Keep8 (w0 w : World) (d ga gs : Nat) (S : Nat → Prop) (M : DM) (us vs : List Value) (A B : List (List Int)) : Prop where
  disk : Disk8 w0 w d S M
  nA : ¬ S ga
  nS : ¬ S gs
  ne : ga ≠ gs
  fA : w0.heap.size ≤ ga
  fS : w0.heap.size ≤ gs
  rowA : Row8 w (with8 S ga gs) ga us A
  rowS : Row8 w (with8 S ga gs) gs vs B
section
variable {w0 w w' : World} {d ga gs : Nat} {S : Nat → Prop} {M M' : DM} {us vs : List Value} {A B : List (List Int)}
theorem Keep8.op (h : Keep8 w0 w d ga gs S M us vs A B) (hD : Disk8 w0 w' d (more8 S w w') M') (ht : Turn S w w') : Keep8 w0 w' d ga gs (more8 S w w') M' us vs A B := by
  have hT : ∀ k, k < w.heap.size → with8 (more8 S w w') ga gs k → with8 S ga gs k := fun k hk hw => by
    rcases hw with (h1 | h1) | h1
    · exact .inl h1
    · omega
    · exact .inr h1
  have hS : ∀ k, S k → with8 S ga gs k := fun _ h => .inl h
  exact ⟨hD, fun hs => hs.elim h.nA fun h1 => absurd h1.1 (by have := h.rowA.lt; omega), fun hs => hs.elim h.nS fun h1 => absurd h1.1 (by have := h.rowS.lt; omega), h.ne, h.fA, h.fS, h.rowA.move ht hS h.nA hT, h.rowS.move ht hS h.nS hT⟩
theorem Keep8.below (h : Keep8 w0 w d ga gs S M us vs A B) (hb : Below w.heap.size w w') : Keep8 w0 w' d ga gs S M us vs A B := by
  have ht : Turn (fun _ => False) w w' := Turn.of_below hb (Nat.le_refl _)
  exact ⟨h.disk.below hb, h.nA, h.nS, h.ne, h.fA, h.fS, h.rowA.move ht (fun _ h => h.elim) id (fun _ _ h => h), h.rowS.move ht (fun _ h => h.elim) id (fun _ _ h => h)⟩
theorem Keep8.setA (h : Keep8 w0 w d ga gs S M us vs A B) (i : Nat) {v : Value} {xs : List Int} (hv : HasX w (with8 S ga gs) v xs) : Keep8 w0 (w.setCell ⟨ga, i, none⟩ v) d ga gs S M (us.set i v) vs (A.set i xs) B := by
  have ht : Turn (fun k => k = ga) w (w.setCell ⟨ga, i, none⟩ v) := (Turn.refl (fun k => k = ga) w).setCell (p := ⟨ga, i, none⟩) (.inl rfl) v
  exact ⟨h.disk.turn ht (fun k hk e => h.nA (e ▸ hk)) (fun k e => e ▸ h.fA), h.nA, h.nS, h.ne, h.fA, h.fS, h.rowA.set (.inr (.inl rfl)) i hv, h.rowS.move ht (fun k e => .inr (.inl e)) (fun e => h.ne e.symm) (fun _ _ h => h)⟩
theorem Keep8.setS (h : Keep8 w0 w d ga gs S M us vs A B) (i : Nat) {v : Value} {xs : List Int} (hv : HasX w (with8 S ga gs) v xs) : Keep8 w0 (w.setCell ⟨gs, i, none⟩ v) d ga gs S M us (vs.set i v) A (B.set i xs) := by
  have ht : Turn (fun k => k = gs) w (w.setCell ⟨gs, i, none⟩ v) := (Turn.refl (fun k => k = gs) w).setCell (p := ⟨gs, i, none⟩) (.inl rfl) v
  exact ⟨h.disk.turn ht (fun k hk e => h.nS (e ▸ hk)) (fun k e => e ▸ h.fS), h.nA, h.nS, h.ne, h.fA, h.fS, h.rowA.move ht (fun k e => .inr (.inr e)) (fun e => h.ne e) (fun _ _ h => h), h.rowS.set (.inr (.inr rfl)) i hv⟩
/-- Bytes that came in. -/
theorem Keep8.old (h : Keep8 w0 w d ga gs S M us vs A B) {v : Value} {xs : List Int} (hv : Has w0 v xs) : HasX w (with8 S ga gs) v xs := by
  obtain ⟨p, c, rfl, h1, h2, h3⟩ := hv
  refine ⟨p, c, rfl, h1, h2, fun h0 => ?_⟩
  obtain ⟨b, o, rfl, hb, hc⟩ := h3 h0
  refine ⟨b, o, rfl, fun hs => ?_, Nat.lt_of_lt_of_le hb h.disk.bel.size, fun i hi => (h.disk.bel.cell (p := ⟨b, o + i, none⟩) hb).trans (hc i hi)⟩
  have fA := h.fA
  have fS := h.fS
  rcases hs with hs | hs | hs
  · have := (h.disk.own b hs).1; omega
  · omega
  · omega
/-- Bytes that the law has just made. -/
theorem Keep8.fresh (h : Keep8 w0 w d ga gs S M us vs A B) {v : Value} {xs : List Int} (ho : Owns w' w.heap.size 5 v xs) : HasX w' (with8 S ga gs) v xs :=
  HasX.of_owns ho fun k hk => by
    rcases hk with hk | hk | hk
    · exact (h.disk.own k hk).2
    · rw [hk]; exact h.rowA.lt
    · rw [hk]; exact h.rowS.lt
end
theorem oneB (xs : List Int) : ∀ u ∈ cellsB xs, u.oneCell' = true := fun u hu => by
  obtain ⟨x, _, rfl⟩ := List.mem_map.1 hu
  rfl
theorem below_grown8 {B0 B : Nat} {w W w' : World} {e : TypeId} {size n : Nat} {v : Value} {xs : List Value} (h : Below B0 w W) (hown : W.ownsRow B e size v n xs) (hg : W.grownBy w' v.ownBlock) (hB : B0 ≤ B) (hB0 : B0 ≤ W.heap.size) : Below B0 w w' :=
  h.trans ⟨hg.os, hg.tape, hg.output, hg.size, fun k hk => hg.block k (by omega) fun e => by
    have := (World.ownsRow.lt hown k e.symm).1
    omega⟩
/-- 'append(s, x...)' of bytes, s made in the region: a step of a region that draws its order. -/
theorem step_fresh8 {ops : Array Oper} {o : Oper} {a : Act} {K : Act → World → Prop} {Q : Exit → Act → World → Prop} {E : Prop} (W : World) (hgd : o.guard = none) (s x : Operand)
    (ho : o.op = .call { callee := .builtin .append, args := #[s, x], argTypes := #[29, 29] })
    {w6 : World} (hx : Below w6.heap.size w6 W) (v u : Value) (xs ys : List Int) (hs : a.eval s = v) (hu : a.eval x = u) (hz : Has w6 u ys) (hown : Owns W w6.heap.size 5 v xs) (hlen : xs.length + ys.length ≤ 1099511627776)
    (h : ∀ v' w', Owns w' w6.heap.size 5 v' (xs ++ ys) → Below w6.heap.size w6 w' → K (a.put o.dst v') w') :
    if Region.wanted o (yielded ops a.tmps) = true then Oper.wp Try.prog o a W K Q else E := by
  have hw : Region.wanted o (yielded ops a.tmps) = true := by simp [Region.wanted, hgd]
  rw [if_pos hw]
  obtain ⟨v', w', hr, h1, h2, _⟩ := run_row elemB W o.type w6.heap.size v u xs.length ys.length (cellsB xs) (cellsB ys) (hasR_of_has (hz.below hx (Nat.le_refl _))) (oneB ys) hown (by omega) (by omega) hx.size
  unfold Oper.wp execOp
  simp only [ho, resolve, invoke, builtin, Sem.run_bind, Sem.run_pure, Result.andThen_ok, List.map_toArray, List.map_cons, List.map_nil, hs, hu, hr]
  refine h v' w' ?_ (below_grown8 hx hown h2 (Nat.le_refl _) hx.size)
  unfold Owns
  rw [List.length_append, show cellsB (xs ++ ys) = cellsB xs ++ cellsB ys by simp [cellsB]]
  exact h1
theorem owns_none8 (w : World) : Owns (w.alloc (.cells #[] 5)).drew w.heap.size 5 (.slice (some ⟨w.heap.size, 0, none⟩) 0 0) [] := World.ownsRow_made w #[] 0 (Nat.le_refl _) (by decide) rfl
theorem ext_drew8 (w : World) : Below w.heap.size w w.drew := ⟨rfl, rfl, rfl, Nat.le_refl _, fun _ _ => rfl⟩
theorem ext_alloc8 {w W : World} (h : Below w.heap.size w W) (o : Obj) : Below w.heap.size w (W.alloc o) := h.alloc h.size o
theorem ext_on8 {w W : World} (h : Below w.heap.size w W) : Below w.heap.size w W.drew := ⟨h.os, h.tape, h.output, h.size, h.block⟩
/-- 'make([][]byte, n)'. -/
theorem makeRow8 (w : World) (n : Nat) (hn : n ≤ 100000) : ∃ w', (Instr.makeSlice 39 (.int .i64 (n : Int)) (.int .i64 (n : Int))).run Try.prog w = .ok (.slice (some ⟨w.heap.size, 0, none⟩) n n) w' ∧ w'.heap[w.heap.size]? = some (.cells (List.replicate n (Value.slice none 0 0)).toArray 29 (0, 0)) ∧ Below w.heap.size w w' := by
  obtain ⟨i, hi, hz, hs, hb⟩ := info_parts (show (Try.prog.info? 29).map (fun i => (i.zero, i.size, i.bytes)) = some (some (.slice none 0 0), 1, 24) by kernel_rfl)
  obtain ⟨w', hr, ho, hg⟩ := run_makeSlice_full (P := Try.prog) w w.heap.size 39 29 i (.slice none 0 0) 1 Try.underlying39 hi hz hs .i64 .i64 n (by omega) (by rw [hb]; omega) (by unfold maxLen; omega) (Nat.le_refl _)
  refine ⟨w', hr, ?_, ⟨hg.os, hg.tape, hg.output, hg.size, fun k hk => hg.block k hk (by simp)⟩⟩
  rcases ho.2 with ⟨h, _⟩ | ⟨g, cap, cur, e, _, hg2, hnc, _, hcs, htk⟩
  · cases h
  · simp only [Value.slice.injEq, Option.some.injEq, Addr.mk.injEq, and_true, true_and] at e
    obtain ⟨rfl, rfl⟩ := e
    rw [show (Value.slice none 0 0).cells = #[.slice none 0 0] from rfl, Nat.mul_one, made_list] at htk
    rw [hg2]
    have e3 : cur = (List.replicate n (Value.slice none 0 0)).toArray := Array.toList_inj.1 (by rw [← htk, List.take_of_length_le (by rw [Array.length_toList, hcs]; omega)])
    rw [e3]
theorem row_made8 {w : World} {T : Nat → Prop} {g n : Nat} (h : w.heap[g]? = some (.cells (List.replicate n (Value.slice none 0 0)).toArray 29 (0, 0))) {bs : List (List Int)} (hl : bs.length = n) (hb : ∀ b ∈ bs, b = []) : Row8 w T g (List.replicate n (Value.slice none 0 0)) bs := by
  refine ⟨h, by rw [List.length_replicate, hl], fun i hi => ?_⟩
  have e1 : (List.replicate n (Value.slice none 0 0)).getD i undef = .slice none 0 0 := by simp [List.getD_eq_getElem?_getD, hl ▸ hi]
  have e2 : bs.getD i [] = [] := by rw [List.getD_eq_getElem?_getD, List.getElem?_eq_getElem hi]; exact hb _ (List.getElem_mem hi)
  rw [e1, e2]
  exact HasX.nil _ _
end Go.Proofs.Ytefgnehahedckaa
