import Derived.Test.YtkfejicgabdflaaOnceTo
import Derived.Test.YtkfejicgabdflaaChecked
import Derived.Deep.MidRow
namespace Go.Proofs.Ytkfejicgabdflaa
open Go.RowKit

theorem oc_int (k : IntKind) (n : Int) : (Value.int k n).oneCell' = true := rfl
theorem oc_bool (b : Bool) : (Value.bool b).oneCell' = true := rfl
theorem oc_string (s : ByteArray) : (Value.string s).oneCell' = true := rfl
theorem oc_slice (a : Option Addr) (n c : Nat) : (Value.slice a n c).oneCell' = true := rfl
theorem oc_pointer (a : Option Addr) : (Value.pointer a).oneCell' = true := rfl

def ldE (v : Value) : Sem Value := Instr.loadAt 51 v
def stE (v x : Value) : Sem Unit := Instr.storeAt 51 v x
theorem ldE_exec (ρ : Operand → Value) (d : Option Tmp) (x : Operand) (t : TypeId) (p : String) (af : Array Edge) (g : Option (Nat × Bool)) (w : World) : (execOp ρ { dst := d, op := .load 51 x, type := t, pos := p, after := af, guard := g }).run Try.prog w = ((ldE (ρ x)).run Try.prog w).andThen fun v w' => .ok (.value v) w' := by
  unfold execOp ldE
  simp only [Sem.run_bind, Sem.run_pure]
theorem stE_exec (ρ : Operand → Value) (d : Option Tmp) (x y : Operand) (t : TypeId) (p : String) (af : Array Edge) (g : Option (Nat × Bool)) (w : World) : (execOp ρ { dst := d, op := .store 51 x y, type := t, pos := p, after := af, guard := g }).run Try.prog w = ((stE (ρ x) (ρ y)).run Try.prog w).andThen fun _ w' => .ok .skip w' := by
  unfold execOp stE
  simp only [Sem.run_bind, Sem.run_pure]
def ldC (v : Value) : Sem Value := Instr.loadAt 46 v
def stC (v x : Value) : Sem Unit := Instr.storeAt 46 v x
theorem ldC_exec (ρ : Operand → Value) (d : Option Tmp) (x : Operand) (t : TypeId) (p : String) (af : Array Edge) (g : Option (Nat × Bool)) (w : World) : (execOp ρ { dst := d, op := .load 46 x, type := t, pos := p, after := af, guard := g }).run Try.prog w = ((ldC (ρ x)).run Try.prog w).andThen fun v w' => .ok (.value v) w' := by
  unfold execOp ldC
  simp only [Sem.run_bind, Sem.run_pure]
theorem stC_exec (ρ : Operand → Value) (d : Option Tmp) (x y : Operand) (t : TypeId) (p : String) (af : Array Edge) (g : Option (Nat × Bool)) (w : World) : (execOp ρ { dst := d, op := .store 46 x y, type := t, pos := p, after := af, guard := g }).run Try.prog w = ((stC (ρ x) (ρ y)).run Try.prog w).andThen fun _ w' => .ok .skip w' := by
  unfold execOp stC
  simp only [Sem.run_bind, Sem.run_pure]
theorem ldC_run (w : World) (b o : Nat) (h : (w.cell? ⟨b, o, none⟩).isSome = true ∧ (w.cell? ⟨b, o + 1, none⟩).isSome = true ∧ (w.cell? ⟨b, o + 2, none⟩).isSome = true ∧ (w.cell? ⟨b, o + 3, none⟩).isSome = true ∧ (w.cell? ⟨b, o + 4, none⟩).isSome = true ∧ (w.cell? ⟨b, o + 5, none⟩).isSome = true ∧ (w.cell? ⟨b, o + 6, none⟩).isSome = true ∧ (w.cell? ⟨b, o + 7, none⟩).isSome = true) : (ldC (.pointer (some ⟨b, o, none⟩))).run Try.prog w = .ok (.agg #[(w.cell? ⟨b, o, none⟩).getD undef, (w.cell? ⟨b, o + 1, none⟩).getD undef, (w.cell? ⟨b, o + 2, none⟩).getD undef, (w.cell? ⟨b, o + 3, none⟩).getD undef, (w.cell? ⟨b, o + 4, none⟩).getD undef, (w.cell? ⟨b, o + 5, none⟩).getD undef, (w.cell? ⟨b, o + 6, none⟩).getD undef, (w.cell? ⟨b, o + 7, none⟩).getD undef]) w := by
  obtain ⟨h0, h1, h2, h3, h4, h5, h6, h7⟩ := h
  obtain ⟨v0, e0⟩ := Option.isSome_iff_exists.1 h0
  obtain ⟨v1, e1⟩ := Option.isSome_iff_exists.1 h1
  obtain ⟨v2, e2⟩ := Option.isSome_iff_exists.1 h2
  obtain ⟨v3, e3⟩ := Option.isSome_iff_exists.1 h3
  obtain ⟨v4, e4⟩ := Option.isSome_iff_exists.1 h4
  obtain ⟨v5, e5⟩ := Option.isSome_iff_exists.1 h5
  obtain ⟨v6, e6⟩ := Option.isSome_iff_exists.1 h6
  obtain ⟨v7, e7⟩ := Option.isSome_iff_exists.1 h7
  rw [e0, e1, e2, e3, e4, e5, e6, e7]
  refine run_loadAt_mid w b o 46 [v0, v1, v2, v3, v4, v5, v6, v7] _ ?_ Try.underlying46 rfl (by kernel_rfl)
  intro j v hj
  rcases j with _ | j
  · simp at hj; subst hj; exact e0
  rcases j with _ | j
  · simp at hj; subst hj; exact e1
  rcases j with _ | j
  · simp at hj; subst hj; exact e2
  rcases j with _ | j
  · simp at hj; subst hj; exact e3
  rcases j with _ | j
  · simp at hj; subst hj; exact e4
  rcases j with _ | j
  · simp at hj; subst hj; exact e5
  rcases j with _ | j
  · simp at hj; subst hj; exact e6
  rcases j with _ | j
  · simp at hj; subst hj; exact e7
  · simp at hj
end Go.Proofs.Ytkfejicgabdflaa
