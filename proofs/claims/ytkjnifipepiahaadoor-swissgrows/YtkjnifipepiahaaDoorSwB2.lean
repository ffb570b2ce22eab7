/-
  A map's object copied over another's.
-/
import Derived.Test.YtkjnifipepiahaaDoorSwB
namespace Go.Proofs.YtkjnifipepiahaaDoor
open Go.RowKit Go.Shelf

def set6 (w : World) (b : Nat) (a0 a1 a2 a3 a4 a5 : Value) : World :=
  (((((w.setCell ⟨b, 0, none⟩ a0).setCell ⟨b, 1, none⟩ a1).setCell ⟨b, 2, none⟩ a2).setCell ⟨b, 3, none⟩ a3).setCell ⟨b, 4, none⟩ a4).setCell ⟨b, 5, none⟩ a5

theorem set6_other (w : World) (b k : Nat) (a0 a1 a2 a3 a4 a5 : Value) (h : k ≠ b) : (set6 w b a0 a1 a2 a3 a4 a5).heap[k]? = w.heap[k]? := by
  unfold set6
  rw [Below.heap_setCell _ _ _ _ h, Below.heap_setCell _ _ _ _ h, Below.heap_setCell _ _ _ _ h, Below.heap_setCell _ _ _ _ h, Below.heap_setCell _ _ _ _ h, Below.heap_setCell _ _ _ _ h]
theorem set6_same {w : World} {b : Nat} {t : TypeId} {c0 c1 c2 c3 c4 c5 : Value} (a0 a1 a2 a3 a4 a5 : Value) (h : w.heap[b]? = some (.cells #[c0, c1, c2, c3, c4, c5] t (0, 0))) :
    (set6 w b a0 a1 a2 a3 a4 a5).heap[b]? = some (.cells #[a0, a1, a2, a3, a4, a5] t (0, 0)) := by
  unfold set6
  simp [World.setCell, Array.getElem?_modify, h]
theorem But.set6 {S : List Nat} {X Y : World} (h : But S X Y) {b : Nat} (hb : b ∈ S ∨ X.heap.size ≤ b) (a0 a1 a2 a3 a4 a5 : Value) : But S X (set6 Y b a0 a1 a2 a3 a4 a5) :=
  (((((h.setCell hb _).setCell hb _).setCell hb _).setCell hb _).setCell hb _).setCell hb _

theorem Lies.copy {tM tS : TypeId} {w : World} {b b' bw bs : Nat} {M : SM} (h : Lies tM tS w b' bw bs M) {c0 c1 c2 c3 c4 c5 : Value} (hb : w.heap[b]? = some (.cells #[c0, c1, c2, c3, c4, c5] tM (0, 0))) (hne : b ≠ bw ∧ b ≠ bs) (h0 : 0 < b) {cw cs : Nat}
    (e2 : w.cell? ⟨b', 2, none⟩ = some (.slice (some ⟨bw, 0, none⟩) M.ws.length cw)) (e3 : w.cell? ⟨b', 3, none⟩ = some (.slice (some ⟨bs, 0, none⟩) M.ss.length cs)) :
    Lies tM tS (set6 w b (.int .u64 M.k0) (.int .u64 M.k1) (.slice (some ⟨bw, 0, none⟩) M.ws.length cw) (.slice (some ⟨bs, 0, none⟩) M.ss.length cs) (.int .i64 (M.n : Int)) (.int .i64 (M.t : Int))) b bw bs M := by
  obtain ⟨cw', cs', r1, r2, r3⟩ := h.row
  have q2 : w.cell? ⟨b', 2, none⟩ = some (.slice (some ⟨bw, 0, none⟩) M.ws.length cw') := by simp [World.cell?, r1]
  have q3 : w.cell? ⟨b', 3, none⟩ = some (.slice (some ⟨bs, 0, none⟩) M.ss.length cs') := by simp [World.cell?, r1]
  rw [e2] at q2
  rw [e3] at q3
  simp only [Option.some.injEq, Value.slice.injEq, true_and] at q2 q3
  subst q2 q3
  refine ⟨⟨cw, cs, set6_same _ _ _ _ _ _ hb, ownsRow_block r2 (set6_other _ _ _ _ _ _ _ _ _ (Ne.symm hne.1)), ownsRow_block r3 (set6_other _ _ _ _ _ _ _ _ _ (Ne.symm hne.2))⟩, ⟨hne.1, hne.2, h.ne.2.2⟩, ⟨h0, h.pos.2⟩⟩
theorem Lies.obj {tM tS : TypeId} {w : World} {b bw bs : Nat} {M : SM} (h : Lies tM tS w b bw bs M) : ∃ c0 c1 c2 c3 c4 c5, w.heap[b]? = some (.cells #[c0, c1, c2, c3, c4, c5] tM (0, 0)) := by
  obtain ⟨cw', cs', r1, r2, r3⟩ := h.row
  exact ⟨_, _, _, _, _, _, r1⟩
end Go.Proofs.YtkjnifipepiahaaDoor
