/-
  The walk of CommandKinds.
-/
import Derived.Test.YtnbaoimjcaeeaaaCmE
import Derived.Test.YtnbaoimjcaeeaaaHRowC
namespace Go.Proofs.Ytnbaoimjcaeeaaa
open Go.RowKit Go.Lib

theorem asks_s {c n : Cmd9} (h : asks9 c n = true) : 1 ≤ c.s := by
  unfold asks9 at h
  simp only [Bool.and_eq_true, decide_eq_true_eq] at h
  exact h.1.1
theorem good_s {c : Cmd9} (h : good9 c = true) : c.k = 1 ∨ 1 ≤ c.s := by
  unfold good9 at h
  repeat' split at h
  all_goals first
    | (left; assumption)
    | (right; simp only [Bool.and_eq_true, decide_eq_true_eq] at h; first | exact asks_s h.2 | exact h.1)
    | cases h
theorem reads_is {c : Cmd9} (h : reads9 c = true) : good9 ⟨c.k, 1, 1, c.key, c.old, c.val, c.unt, c.lim⟩ = true ∧ good9 c = false ∧ changes9 c.k = false := by
  unfold reads9 at h
  split at h
  · rename_i hc
    refine ⟨h, ?_, ?_⟩
    · cases hg : good9 c with
      | false => rfl
      | true =>
        have := good_s hg
        omega
    · unfold changes9
      exact decide_eq_false (by omega)
  · cases h

/-- A command's box, and that old memory lies as it lay. -/
def Box9 (w0 w : World) (b : Nat) (c : Cmd9) : Prop := CmdAt w b c ∧ Below w0.heap.size w0 w ∧ w0.heap.size ≤ b
theorem Box9.new (w : World) (c : Cmd9) : Box9 w (w.alloc (.cells c.arr 23)) w.heap.size c := ⟨CmdAt.new w c, (Below.refl _ _).alloc (Nat.le_refl _) _, Nat.le_refl _⟩
theorem Box9.below {w0 w w' : World} {b : Nat} {c : Cmd9} (h : Box9 w0 w b c) (hb : Below w.heap.size w w') : Box9 w0 w' b c := ⟨h.1.below hb, h.2.1.trans (hb.mono h.2.1.size), h.2.2⟩
theorem Box9.more {w0 w : World} {b : Nat} {c : Cmd9} (h : Box9 w0 w b c) (x : Obj) : Box9 w0 (w.alloc x) b c := h.below ((Below.refl _ _).alloc (Nat.le_refl _) x)
theorem Box9.cells {w0 w : World} {b : Nat} {k s q : Int} {key old val unt : ByteArray} {lim : Int} (h : Box9 w0 w b ⟨k, s, q, key, old, val, unt, lim⟩) :
    w.cell? ⟨b, 0, none⟩ = some (.int .i64 k) ∧ w.cell? ⟨b, 1, none⟩ = some (.int .i64 s) ∧ w.cell? ⟨b, 2, none⟩ = some (.int .i64 q) ∧ w.cell? ⟨b, 3, none⟩ = some (.string key) ∧
    w.cell? ⟨b, 4, none⟩ = some (.string old) ∧ w.cell? ⟨b, 5, none⟩ = some (.string val) ∧ w.cell? ⟨b, 6, none⟩ = some (.string unt) ∧ w.cell? ⟨b, 7, none⟩ = some (.int .i64 lim) := h.1.cells
end Go.Proofs.Ytnbaoimjcaeeaaa
