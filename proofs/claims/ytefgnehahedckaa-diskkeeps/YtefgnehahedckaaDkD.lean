/-
  Contracts: the writes of a file leave the buffer: drop's closure, slices.IndexFunc and slices.DeleteFunc at writes.
-/
import Derived.Test.YtefgnehahedckaaDkC
import Derived.Lib.SliceRun
namespace Go.Proofs.Ytefgnehahedckaa
open Go.RowKit Go.Maps

/-- Writes as they lie: a file's block, and how many bytes. -/
def rowV (l : List (Nat × Nat)) : List Value := (l.map fun w => [Value.pointer (some ⟨w.1, 0, none⟩), .int .i64 (w.2 : Nat)]).flatten
theorem rowV_cons (w : Nat × Nat) (l : List (Nat × Nat)) : rowV (w :: l) = .pointer (some ⟨w.1, 0, none⟩) :: .int .i64 (w.2 : Nat) :: rowV l := rfl
theorem rowV_writes (φ : ByteArray → Nat) (l : List (ByteArray × Nat)) : writesV φ l = rowV (l.map fun w => (φ w.1, w.2)) := by
  unfold writesV rowV
  rw [List.map_map]
  rfl
theorem rowV_length : ∀ l : List (Nat × Nat), (rowV l).length = l.length * 2
  | [] => rfl
  | w :: l => by rw [rowV_cons, List.length_cons, List.length_cons, rowV_length l, List.length_cons]; omega
theorem rowV_file : ∀ {l : List (Nat × Nat)} {i : Nat}, i < l.length → (rowV l)[i * 2]? = some (.pointer (some ⟨(l.getD i default).1, 0, none⟩))
  | [], i, h => by cases h
  | w :: l, 0, _ => rfl
  | w :: l, i + 1, h => by
    rw [rowV_cons, show (i + 1) * 2 = i * 2 + 1 + 1 by omega, List.getElem?_cons_succ, List.getElem?_cons_succ, rowV_file (by simpa using h), List.getD_cons_succ]
theorem rowV_size : ∀ {l : List (Nat × Nat)} {i : Nat}, i < l.length → (rowV l)[i * 2 + 1]? = some (.int .i64 ((l.getD i default).2 : Nat))
  | [], i, h => by cases h
  | w :: l, 0, _ => rfl
  | w :: l, i + 1, h => by
    rw [rowV_cons, show (i + 1) * 2 + 1 = i * 2 + 1 + 1 + 1 by omega, List.getElem?_cons_succ, List.getElem?_cons_succ, rowV_size (by simpa using h), List.getD_cons_succ]
theorem rowV_set : ∀ (l : List (Nat × Nat)) (i : Nat) (x : Nat × Nat), ((rowV l).set (i * 2) (.pointer (some ⟨x.1, 0, none⟩))).set (i * 2 + 1) (.int .i64 (x.2 : Nat)) = rowV (l.set i x)
  | [], i, x => by simp [rowV]
  | p :: l, 0, x => rfl
  | p :: l, i + 1, x => by
    rw [rowV_cons, show (i + 1) * 2 = i * 2 + 1 + 1 by omega, List.set_cons_succ, List.set_cons_succ, List.set_cons_succ, List.set_cons_succ, rowV_set l i x, List.set_cons_succ, rowV_cons]
theorem rowV_take (l : List (Nat × Nat)) : ∀ k, rowV (l.take k) = (rowV l).take (k * 2) := by
  induction l with
  | nil => intro k; simp [rowV]
  | cons p l ih =>
    intro k
    cases k with
    | zero => simp [rowV]
    | succ k => rw [List.take_succ_cons, rowV_cons, ih k, rowV_cons, show (k + 1) * 2 = k * 2 + 1 + 1 by omega, List.take_succ_cons, List.take_succ_cons]

/-- A row of writes that the call made. -/
def OwnsW (w : World) (v : Value) (l : List (Nat × Nat)) : Prop := w.ownsRow 0 82 2 v l.length (rowV l)
theorem OwnsW.form {w : World} {v : Value} {l : List (Nat × Nat)} (h : OwnsW w v l) (h0 : 0 < l.length) : ∃ g cap, v = .slice (some ⟨g, 0, none⟩) l.length cap ∧ g < w.heap.size ∧ l.length ≤ cap ∧ (∀ i, i < l.length → w.cell? ⟨g, i * 2, none⟩ = some (.pointer (some ⟨(l.getD i default).1, 0, none⟩)) ∧ w.cell? ⟨g, i * 2 + 1, none⟩ = some (.int .i64 ((l.getD i default).2 : Nat))) ∧ (∀ j, w.frozen? ⟨g, j, none⟩ = false) ∧ (l.length : Int) ≤ 9223372036854775807 := by
  rcases h.2 with ⟨_, hn⟩ | ⟨g, cap, cur, rfl, hB, hg, hnc, hm, _, _⟩
  · omega
  · unfold maxLen at hm
    refine ⟨g, cap, rfl, (Array.getElem?_eq_some_iff.1 hg).1, hnc, fun i hi => ?_, World.ownsRow.frozenAt h, by omega⟩
    have hc := fun j u hj => World.ownsRow.cells h (g := g) rfl j u hj
    have h1 := hc _ _ (rowV_file hi)
    have h2 := hc _ _ (rowV_size hi)
    rw [Addr.add_lit, Nat.zero_add] at h1 h2
    exact ⟨h1, h2⟩
theorem OwnsW.len {w : World} {p : Option Addr} {n c : Nat} {l : List (Nat × Nat)} (h : OwnsW w (.slice p n c) l) : n = l.length := by
  rcases h.2 with ⟨e, hn⟩ | ⟨g, cap, cur, e, _⟩
  · simp only [Value.slice.injEq] at e; omega
  · simp only [Value.slice.injEq] at e; exact e.2.1
theorem OwnsW.set {w : World} {g n c : Nat} {l : List (Nat × Nat)} (h : OwnsW w (.slice (some ⟨g, 0, none⟩) n c) l) (i : Nat) (x : Nat × Nat) :
    OwnsW ((w.setCell ⟨g, i * 2, none⟩ (.pointer (some ⟨x.1, 0, none⟩))).setCell ⟨g, i * 2 + 1, none⟩ (.int .i64 (x.2 : Nat))) (.slice (some ⟨g, 0, none⟩) n c) (l.set i x) := by
  have hn := h.len
  subst hn
  obtain ⟨h1, g1⟩ := World.ownsRow.stored h (i * 2) (.pointer (some ⟨x.1, 0, none⟩))
  obtain ⟨h2, g2⟩ := World.ownsRow.stored h1 (i * 2 + 1) (.int .i64 (x.2 : Nat))
  unfold OwnsW
  rw [List.length_set, ← rowV_set]
  exact h2
theorem OwnsW.below {w w' : World} {v : Value} {l : List (Nat × Nat)} (h : OwnsW w v l) (hb : Below w.heap.size w w') : OwnsW w' v l := row_same h fun g hg => hb.block g (World.ownsRow.lt h g hg).2
/-- The row's beginning, behind what was stored beyond it. -/
theorem row_take {w : World} {B g n c k size : Nat} {e : TypeId} {xs : List Value} (h : w.ownsRow B e size (.slice (some ⟨g, 0, none⟩) n c) n xs) (hk : k ≤ n) : w.ownsRow B e size (.slice (some ⟨g, 0, none⟩) k c) k (xs.take (k * size)) := by
  have hkn : k * size ≤ n * size := Nat.mul_le_mul_right _ hk
  refine ⟨by rw [List.length_take, h.1]; omega, .inr ?_⟩
  rcases h.2 with ⟨e, _⟩ | ⟨g', cap, cur, e, hB, hg, hnc, hm, hs, ht⟩
  · cases e
  · simp only [Value.slice.injEq, Option.some.injEq, Addr.mk.injEq, and_true] at e
    obtain ⟨rfl, _, rfl⟩ := e
    refine ⟨g, c, cur, rfl, hB, hg, by omega, hm, hs, ?_⟩
    rw [← ht, List.take_take, Nat.min_eq_left hkn]
theorem row_clear {B g k c size : Nat} {e : TypeId} {xs : List Value} : ∀ (zs : List Value) (o : Nat) (w : World), w.ownsRow B e size (.slice (some ⟨g, 0, none⟩) k c) k xs → k * size ≤ o → (w.setCells g o zs).ownsRow B e size (.slice (some ⟨g, 0, none⟩) k c) k xs ∧ w.grownBy (w.setCells g o zs) (some g)
  | [], o, w, h, _ => ⟨h, rfl, rfl, rfl, Nat.le_refl _, fun _ _ _ => rfl⟩
  | z :: zs, o, w, h, ho => by
    obtain ⟨h1, g1⟩ := World.ownsRow.stored h o z
    rw [List.set_eq_of_length_le (by rw [h.1]; exact ho)] at h1
    obtain ⟨h2, g2⟩ := row_clear zs (o + 1) _ h1 (by omega)
    exact ⟨h2, ⟨g2.os.trans g1.os, g2.tape.trans g1.tape, g2.output.trans g1.output, Nat.le_trans g1.size g2.size, fun i hi hn => (g2.block i (Nat.lt_of_lt_of_le hi g1.size) hn).trans (g1.block i hi hn)⟩⟩
theorem zeroW (w : World) : (zeroValue 82).run Try.prog w = .ok (.agg #[.pointer none, .int .i64 0]) w := by kernel_rfl
/-- 'clear(s[i:])'. -/
theorem clear_row {w : World} {g n c k : Nat} {l : List (Nat × Nat)} (h : OwnsW w (.slice (some ⟨g, 0, none⟩) n c) l) (hk : k ≤ n) (ty : TypeId) :
    ∃ w', (Builtin.clear_ #[55] ty #[.slice (some ⟨g, k * 2, none⟩) (n - k) (c - k)]).run Try.prog w = .ok (.tuple #[]) w' ∧ OwnsW w' (.slice (some ⟨g, 0, none⟩) k c) (l.take k) ∧ w.grownBy w' (some g) := by
  have hn := h.len
  subst hn
  have ht := row_take h hk
  have hl : (l.take k).length = k := by rw [List.length_take]; omega
  rcases Nat.eq_zero_or_pos (l.length - k) with h0 | h0
  · refine ⟨w, ?_, ?_, rfl, rfl, rfl, Nat.le_refl _, fun _ _ _ => rfl⟩
    · rw [h0]
      simp [Builtin.clear_, run_underlying Try.underlying55]
    · unfold OwnsW
      rw [hl, rowV_take]
      exact ht
  · obtain ⟨m, hm⟩ : ∃ m, l.length - k = m + 1 := ⟨l.length - k - 1, by omega⟩
    have hzl : (Builtin.zeroCells #[.pointer none, .int .i64 0] (l.length - k)).toList.length = (l.length - k) * 2 := by simp [Builtin.zeroCells]
    have hcell : ∀ j, j < (l.length - k) * 2 → (w.cell? ⟨g, k * 2 + j, none⟩).isSome = true := by
      intro j hj
      have hj' : k * 2 + j < (rowV l).length := by rw [rowV_length]; omega
      have := World.ownsRow.cells h (g := g) rfl (k * 2 + j) _ (List.getElem?_eq_getElem hj')
      rw [Addr.add_lit, Nat.zero_add] at this
      rw [this]
      rfl
    have hst := run_storeCells_cells (P := Try.prog) g (k * 2) (Builtin.zeroCells #[.pointer none, .int .i64 0] (l.length - k)).toList 0 w (by rw [hzl]; simpa using hcell) (fun j _ => World.ownsRow.frozenAt h _) (by
      intro v hv
      obtain ⟨i, hi, rfl⟩ := List.mem_iff_getElem.1 hv
      simp only [Builtin.zeroCells]
      rcases Nat.mod_two_eq_zero_or_one i with e | e <;> simp [e, Value.oneCell'])
    simp only [Nat.add_zero] at hst
    obtain ⟨r1, r2⟩ := row_clear (Builtin.zeroCells #[.pointer none, .int .i64 0] (l.length - k)).toList (k * 2) w ht (Nat.le_refl _)
    refine ⟨_, ?_, ?_, r2⟩
    · rw [hm] at hst ⊢
      simp [Builtin.clear_, run_underlying Try.underlying55, Value.cells, hst]
    · unfold OwnsW
      rw [hl, rowV_take]
      exact r1
end Go.Proofs.Ytefgnehahedckaa
