import Derived.Test.YtefgnehahedckaaRf6To
/-
  The document's own disk: a file gets other bytes; the mathematics of 'sure'.
-/
namespace Go.Proofs.Ytefgnehahedckaa
open Go.RowKit Go.Maps

theorem trs_set : ∀ (t : List Tr) (i : Nat) (v : Value) (xs : List Int), trs (t.set i ((t.getD i default).1, v, xs)) = (trs t).set (i * 2 + 1) v
  | [], i, v, xs => rfl
  | f :: t, 0, v, xs => rfl
  | f :: t, i + 1, v, xs => by
    rw [List.set_cons_succ, trs, show (i + 1) * 2 + 1 = (i * 2 + 1) + 1 + 1 by omega, trs, List.set_cons_succ, List.set_cons_succ]
    have := trs_set t i v xs
    rw [show (f :: t).getD (i + 1) default = t.getD i default from rfl, this]
theorem trM_set (t : List Tr) (i : Nat) (v : Value) (xs : List Int) : trM (t.set i ((t.getD i default).1, v, xs)) = (trM t).set i ((t.getD i default).1, xs) := by
  unfold trM
  rw [List.map_set]
section
variable {w : World} {r : Nat} {S : Nat → Prop} {vb : Value} {tl tb : List Tr} {blocks : Nat} {off : Bool} {ops : Nat} {n keep : Int}
/-- A file's bytes are others. -/
theorem RefLies.setF {g c : Nat} (h : RefLies w r S (.slice (some ⟨g, 0, none⟩) tl.length c) vb tl tb blocks off ops n keep) (i : Nat) {v : Value} {xs : List Int} (ho : Owns w 0 5 v xs) (hS : ∀ k, v.ownBlock = some k → S k) :
    RefLies (w.setCell ⟨g, i * 2 + 1, none⟩ v) r S (.slice (some ⟨g, 0, none⟩) tl.length c) vb (tl.set i ((tl.getD i default).1, v, xs)) tb blocks off ops n keep := by
  have hgk : ∃ cur, w.heap[g]? = some (.cells cur 94 (0, 0)) := by
    rcases h.rowL.2 with ⟨h0, _⟩ | ⟨g', cap, cur, e, _, hg, _⟩
    · cases h0
    · simp only [Value.slice.injEq, Option.some.injEq, Addr.mk.injEq, and_true, true_and] at e
      obtain ⟨rfl, _⟩ := e
      exact ⟨cur, hg⟩
  obtain ⟨cur, hgk⟩ := hgk
  have hne : ∀ k, k ≠ g → (w.setCell ⟨g, i * 2 + 1, none⟩ v).heap[k]? = w.heap[k]? := fun k hk => Below.heap_setCell _ _ _ _ (fun e => hk e)
  have hrow : ∀ (e : TypeId) (size m : Nat) (u : Value) (ys : List Value), e ≠ 94 → w.ownsRow 0 e size u m ys → (w.setCell ⟨g, i * 2 + 1, none⟩ v).ownsRow 0 e size u m ys := fun e size m u ys he hr =>
    row_same hr fun k hk => hne k fun e2 => row_apart hr hgk (fun e3 => he e3.symm) (by rw [hk, e2])
  have hrg : r ≠ g := fun e => by
    have := h.blk
    rw [e, hgk] at this
    simp only [Option.some.injEq, Obj.cells.injEq] at this
    exact absurd this.2.1 (by decide)
  refine ⟨(hne r hrg).trans h.blk, ?_, hrow _ _ _ _ _ (by decide) h.rowB, h.sR, h.sL, h.sB, fun f hf => ?_, fun f hf => ⟨hrow _ _ _ _ _ (by decide) (h.byB f hf).1, (h.byB f hf).2⟩⟩
  · rw [List.length_set, trs_set]
    exact (World.ownsRow.stored h.rowL (i * 2 + 1) v).1
  · rcases List.mem_or_eq_of_mem_set hf with hf | rfl
    · exact ⟨hrow _ _ _ _ _ (by decide) (h.byL f hf).1, (h.byL f hf).2⟩
    · exact ⟨hrow _ _ _ _ _ (by decide) ho, hS⟩
end
end Go.Proofs.Ytefgnehahedckaa

/-
  The document's own disk: the mathematics of 'sure'.
-/
namespace Go.Proofs.Ytefgnehahedckaa
open Go.RowKit Go.Maps

/-- The files behind some writes, of which N bytes are kept. -/
def fallL (N : Nat) (buf l : List (ByteArray × List Int)) : List (ByteArray × List Int) := l.map fun f => (f.1, f.2 ++ left N buf f.1)
theorem fall_one (N : Nat) (buf : List (ByteArray × List Int)) (y : ByteArray) (b : List Int) (x : ByteArray) : left N (buf ++ [(y, b)]) x = left N buf x ++ if y = x then b.take (N - tot buf) else [] := by
  rw [left_append, left, left, List.append_nil]
theorem fallL_other (N : Nat) (buf : List (ByteArray × List Int)) (y : ByteArray) (b : List Int) {l : List (ByteArray × List Int)} (h : y ∉ nms l) : fallL N (buf ++ [(y, b)]) l = fallL N buf l := by
  unfold fallL
  refine List.map_congr_left fun f hf => ?_
  rw [fall_one, if_neg (fun e => h (by rw [e]; exact List.mem_map.2 ⟨f, hf, rfl⟩)), List.append_nil]
theorem fallL_step (N : Nat) (buf : List (ByteArray × List Int)) (y : ByteArray) (b : List Int) : ∀ {l : List (ByteArray × List Int)} {i : Nat} {zs : List Int}, (nms l).Nodup → (fallL N buf l)[i]? = some (y, zs) →
    fallL N (buf ++ [(y, b)]) l = (fallL N buf l).set i (y, zs ++ b.take (N - tot buf))
  | [], i, zs, _, hi => by simp [fallL] at hi
  | f :: l, 0, zs, hn, hi => by
    have hd := List.nodup_cons.1 hn
    have e : (f.1, f.2 ++ left N buf f.1) = (y, zs) := by simpa [fallL] using hi
    simp only [Prod.mk.injEq] at e
    obtain ⟨e1, e2⟩ := e
    have ht := fallL_other N buf y b (l := l) (by rw [← e1]; exact hd.1)
    show (f.1, f.2 ++ left N (buf ++ [(y, b)]) f.1) :: fallL N (buf ++ [(y, b)]) l = (y, zs ++ b.take (N - tot buf)) :: fallL N buf l
    rw [ht, fall_one, if_pos e1.symm, ← List.append_assoc, e2, e1]
  | f :: l, i + 1, zs, hn, hi => by
    have hd := List.nodup_cons.1 hn
    have hi' : (fallL N buf l)[i]? = some (y, zs) := by simpa [fallL] using hi
    have hy : y ∈ nms l := by
      have hm := List.mem_of_getElem? hi'
      unfold fallL at hm
      obtain ⟨g, hg, e⟩ := List.mem_map.1 hm
      simp only [Prod.mk.injEq] at e
      exact List.mem_map.2 ⟨g, hg, e.1⟩
    have hne : ¬ y = f.1 := fun e => hd.1 (by rw [← e]; exact hy)
    show (f.1, f.2 ++ left N (buf ++ [(y, b)]) f.1) :: fallL N (buf ++ [(y, b)]) l = (f.1, f.2 ++ left N buf f.1) :: (fallL N buf l).set i (y, zs ++ b.take (N - tot buf))
    rw [fall_one, if_neg hne, List.append_nil, fallL_step N buf y b hd.2 hi']
theorem fallL_nil (N : Nat) (l : List (ByteArray × List Int)) : fallL N [] l = l := by
  unfold fallL
  conv => rhs; rw [← List.map_id l]
  refine List.map_congr_left fun f _ => ?_
  rw [left, List.append_nil]
  rfl
theorem fallL_names (N : Nat) (buf l : List (ByteArray × List Int)) : nms (fallL N buf l) = nms l := DM.nms_map l _
end Go.Proofs.Ytefgnehahedckaa
