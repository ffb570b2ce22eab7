import Derived.Test.YtkbbhllchombdaaGreatDoorOnceTo
import Derived.Test.YtkbbhllchombdaaGreatDoorChecked
import Derived.Deep.MidRow
namespace Go.Proofs.YtkbbhllchombdaaGreatDoor
open Go.RowKit

theorem oc_int (k : IntKind) (n : Int) : (Value.int k n).oneCell' = true := rfl
theorem oc_bool (b : Bool) : (Value.bool b).oneCell' = true := rfl
theorem oc_string (s : ByteArray) : (Value.string s).oneCell' = true := rfl
theorem oc_slice (a : Option Addr) (n c : Nat) : (Value.slice a n c).oneCell' = true := rfl
theorem oc_pointer (a : Option Addr) : (Value.pointer a).oneCell' = true := rfl

def ldE (v : Value) : Sem Value := Instr.loadAt 28 v
def stE (v x : Value) : Sem Unit := Instr.storeAt 28 v x
theorem ldE_exec (ρ : Operand → Value) (d : Option Tmp) (x : Operand) (t : TypeId) (p : String) (af : Array Edge) (g : Option (Nat × Bool)) (w : World) : (execOp ρ { dst := d, op := .load 28 x, type := t, pos := p, after := af, guard := g }).run Tryz.prog w = ((ldE (ρ x)).run Tryz.prog w).andThen fun v w' => .ok (.value v) w' := by
  unfold execOp ldE
  simp only [Sem.run_bind, Sem.run_pure]
theorem stE_exec (ρ : Operand → Value) (d : Option Tmp) (x y : Operand) (t : TypeId) (p : String) (af : Array Edge) (g : Option (Nat × Bool)) (w : World) : (execOp ρ { dst := d, op := .store 28 x y, type := t, pos := p, after := af, guard := g }).run Tryz.prog w = ((stE (ρ x) (ρ y)).run Tryz.prog w).andThen fun _ w' => .ok .skip w' := by
  unfold execOp stE
  simp only [Sem.run_bind, Sem.run_pure]
theorem ldE_run (w : World) (b o : Nat) (h : (w.cell? ⟨b, o, none⟩).isSome = true ∧ (w.cell? ⟨b, o + 1, none⟩).isSome = true ∧ (w.cell? ⟨b, o + 2, none⟩).isSome = true ∧ (w.cell? ⟨b, o + 3, none⟩).isSome = true ∧ (w.cell? ⟨b, o + 4, none⟩).isSome = true ∧ (w.cell? ⟨b, o + 5, none⟩).isSome = true ∧ (w.cell? ⟨b, o + 6, none⟩).isSome = true ∧ (w.cell? ⟨b, o + 7, none⟩).isSome = true ∧ (w.cell? ⟨b, o + 8, none⟩).isSome = true ∧ (w.cell? ⟨b, o + 9, none⟩).isSome = true ∧ (w.cell? ⟨b, o + 10, none⟩).isSome = true ∧ (w.cell? ⟨b, o + 11, none⟩).isSome = true ∧ (w.cell? ⟨b, o + 12, none⟩).isSome = true) : (ldE (.pointer (some ⟨b, o, none⟩))).run Tryz.prog w = .ok (.agg #[(w.cell? ⟨b, o, none⟩).getD undef, (w.cell? ⟨b, o + 1, none⟩).getD undef, (w.cell? ⟨b, o + 2, none⟩).getD undef, (w.cell? ⟨b, o + 3, none⟩).getD undef, (w.cell? ⟨b, o + 4, none⟩).getD undef, (w.cell? ⟨b, o + 5, none⟩).getD undef, (w.cell? ⟨b, o + 6, none⟩).getD undef, (w.cell? ⟨b, o + 7, none⟩).getD undef, (w.cell? ⟨b, o + 8, none⟩).getD undef, (w.cell? ⟨b, o + 9, none⟩).getD undef, (w.cell? ⟨b, o + 10, none⟩).getD undef, (w.cell? ⟨b, o + 11, none⟩).getD undef, (w.cell? ⟨b, o + 12, none⟩).getD undef]) w := by
  obtain ⟨h0, h1, h2, h3, h4, h5, h6, h7, h8, h9, h10, h11, h12⟩ := h
  obtain ⟨v0, e0⟩ := Option.isSome_iff_exists.1 h0
  obtain ⟨v1, e1⟩ := Option.isSome_iff_exists.1 h1
  obtain ⟨v2, e2⟩ := Option.isSome_iff_exists.1 h2
  obtain ⟨v3, e3⟩ := Option.isSome_iff_exists.1 h3
  obtain ⟨v4, e4⟩ := Option.isSome_iff_exists.1 h4
  obtain ⟨v5, e5⟩ := Option.isSome_iff_exists.1 h5
  obtain ⟨v6, e6⟩ := Option.isSome_iff_exists.1 h6
  obtain ⟨v7, e7⟩ := Option.isSome_iff_exists.1 h7
  obtain ⟨v8, e8⟩ := Option.isSome_iff_exists.1 h8
  obtain ⟨v9, e9⟩ := Option.isSome_iff_exists.1 h9
  obtain ⟨v10, e10⟩ := Option.isSome_iff_exists.1 h10
  obtain ⟨v11, e11⟩ := Option.isSome_iff_exists.1 h11
  obtain ⟨v12, e12⟩ := Option.isSome_iff_exists.1 h12
  rw [e0, e1, e2, e3, e4, e5, e6, e7, e8, e9, e10, e11, e12]
  refine run_loadAt_mid w b o 28 [v0, v1, v2, v3, v4, v5, v6, v7, v8, v9, v10, v11, v12] _ ?_ Tryz.underlying28 rfl (by kernel_rfl)
  intro j v hj
  rcases j with _ | j
  · simp at hj; subst hj; exact e0
  rcases j with _ | j
  · simp at hj; subst hj; exact e1
  rcases j with _ | j
  · simp at hj; subst hj; exact e2
  rcases j with _ | j
  · simp at hj; subst hj; exact e3
  rcases j with _ | j
  · simp at hj; subst hj; exact e4
  rcases j with _ | j
  · simp at hj; subst hj; exact e5
  rcases j with _ | j
  · simp at hj; subst hj; exact e6
  rcases j with _ | j
  · simp at hj; subst hj; exact e7
  rcases j with _ | j
  · simp at hj; subst hj; exact e8
  rcases j with _ | j
  · simp at hj; subst hj; exact e9
  rcases j with _ | j
  · simp at hj; subst hj; exact e10
  rcases j with _ | j
  · simp at hj; subst hj; exact e11
  rcases j with _ | j
  · simp at hj; subst hj; exact e12
  · simp at hj
def ldC (v : Value) : Sem Value := Instr.loadAt 23 v
def stC (v x : Value) : Sem Unit := Instr.storeAt 23 v x
theorem ldC_exec (ρ : Operand → Value) (d : Option Tmp) (x : Operand) (t : TypeId) (p : String) (af : Array Edge) (g : Option (Nat × Bool)) (w : World) : (execOp ρ { dst := d, op := .load 23 x, type := t, pos := p, after := af, guard := g }).run Tryz.prog w = ((ldC (ρ x)).run Tryz.prog w).andThen fun v w' => .ok (.value v) w' := by
  unfold execOp ldC
  simp only [Sem.run_bind, Sem.run_pure]
theorem stC_exec (ρ : Operand → Value) (d : Option Tmp) (x y : Operand) (t : TypeId) (p : String) (af : Array Edge) (g : Option (Nat × Bool)) (w : World) : (execOp ρ { dst := d, op := .store 23 x y, type := t, pos := p, after := af, guard := g }).run Tryz.prog w = ((stC (ρ x) (ρ y)).run Tryz.prog w).andThen fun _ w' => .ok .skip w' := by
  unfold execOp stC
  simp only [Sem.run_bind, Sem.run_pure]
theorem ldC_run (w : World) (b o : Nat) (h : (w.cell? ⟨b, o, none⟩).isSome = true ∧ (w.cell? ⟨b, o + 1, none⟩).isSome = true ∧ (w.cell? ⟨b, o + 2, none⟩).isSome = true ∧ (w.cell? ⟨b, o + 3, none⟩).isSome = true ∧ (w.cell? ⟨b, o + 4, none⟩).isSome = true ∧ (w.cell? ⟨b, o + 5, none⟩).isSome = true ∧ (w.cell? ⟨b, o + 6, none⟩).isSome = true ∧ (w.cell? ⟨b, o + 7, none⟩).isSome = true) : (ldC (.pointer (some ⟨b, o, none⟩))).run Tryz.prog w = .ok (.agg #[(w.cell? ⟨b, o, none⟩).getD undef, (w.cell? ⟨b, o + 1, none⟩).getD undef, (w.cell? ⟨b, o + 2, none⟩).getD undef, (w.cell? ⟨b, o + 3, none⟩).getD undef, (w.cell? ⟨b, o + 4, none⟩).getD undef, (w.cell? ⟨b, o + 5, none⟩).getD undef, (w.cell? ⟨b, o + 6, none⟩).getD undef, (w.cell? ⟨b, o + 7, none⟩).getD undef]) w := by
  obtain ⟨h0, h1, h2, h3, h4, h5, h6, h7⟩ := h
  obtain ⟨v0, e0⟩ := Option.isSome_iff_exists.1 h0
  obtain ⟨v1, e1⟩ := Option.isSome_iff_exists.1 h1
  obtain ⟨v2, e2⟩ := Option.isSome_iff_exists.1 h2
  obtain ⟨v3, e3⟩ := Option.isSome_iff_exists.1 h3
  obtain ⟨v4, e4⟩ := Option.isSome_iff_exists.1 h4
  obtain ⟨v5, e5⟩ := Option.isSome_iff_exists.1 h5
  obtain ⟨v6, e6⟩ := Option.isSome_iff_exists.1 h6
  obtain ⟨v7, e7⟩ := Option.isSome_iff_exists.1 h7
  rw [e0, e1, e2, e3, e4, e5, e6, e7]
  refine run_loadAt_mid w b o 23 [v0, v1, v2, v3, v4, v5, v6, v7] _ ?_ Tryz.underlying23 rfl (by kernel_rfl)
  intro j v hj
  rcases j with _ | j
  · simp at hj; subst hj; exact e0
  rcases j with _ | j
  · simp at hj; subst hj; exact e1
  rcases j with _ | j
  · simp at hj; subst hj; exact e2
  rcases j with _ | j
  · simp at hj; subst hj; exact e3
  rcases j with _ | j
  · simp at hj; subst hj; exact e4
  rcases j with _ | j
  · simp at hj; subst hj; exact e5
  rcases j with _ | j
  · simp at hj; subst hj; exact e6
  rcases j with _ | j
  · simp at hj; subst hj; exact e7
  · simp at hj
def ldW (v : Value) : Sem Value := Instr.loadAt 32 v
def stW (v x : Value) : Sem Unit := Instr.storeAt 32 v x
theorem ldW_exec (ρ : Operand → Value) (d : Option Tmp) (x : Operand) (t : TypeId) (p : String) (af : Array Edge) (g : Option (Nat × Bool)) (w : World) : (execOp ρ { dst := d, op := .load 32 x, type := t, pos := p, after := af, guard := g }).run Tryz.prog w = ((ldW (ρ x)).run Tryz.prog w).andThen fun v w' => .ok (.value v) w' := by
  unfold execOp ldW
  simp only [Sem.run_bind, Sem.run_pure]
theorem stW_exec (ρ : Operand → Value) (d : Option Tmp) (x y : Operand) (t : TypeId) (p : String) (af : Array Edge) (g : Option (Nat × Bool)) (w : World) : (execOp ρ { dst := d, op := .store 32 x y, type := t, pos := p, after := af, guard := g }).run Tryz.prog w = ((stW (ρ x) (ρ y)).run Tryz.prog w).andThen fun _ w' => .ok .skip w' := by
  unfold execOp stW
  simp only [Sem.run_bind, Sem.run_pure]
def ldR (v : Value) : Sem Value := Instr.loadAt 44 v
def stR (v x : Value) : Sem Unit := Instr.storeAt 44 v x
theorem ldR_exec (ρ : Operand → Value) (d : Option Tmp) (x : Operand) (t : TypeId) (p : String) (af : Array Edge) (g : Option (Nat × Bool)) (w : World) : (execOp ρ { dst := d, op := .load 44 x, type := t, pos := p, after := af, guard := g }).run Tryz.prog w = ((ldR (ρ x)).run Tryz.prog w).andThen fun v w' => .ok (.value v) w' := by
  unfold execOp ldR
  simp only [Sem.run_bind, Sem.run_pure]
theorem stR_exec (ρ : Operand → Value) (d : Option Tmp) (x y : Operand) (t : TypeId) (p : String) (af : Array Edge) (g : Option (Nat × Bool)) (w : World) : (execOp ρ { dst := d, op := .store 44 x y, type := t, pos := p, after := af, guard := g }).run Tryz.prog w = ((stR (ρ x) (ρ y)).run Tryz.prog w).andThen fun _ w' => .ok .skip w' := by
  unfold execOp stR
  simp only [Sem.run_bind, Sem.run_pure]
def ldT (v : Value) : Sem Value := Instr.loadAt 82 v
def stT (v x : Value) : Sem Unit := Instr.storeAt 82 v x
theorem ldT_exec (ρ : Operand → Value) (d : Option Tmp) (x : Operand) (t : TypeId) (p : String) (af : Array Edge) (g : Option (Nat × Bool)) (w : World) : (execOp ρ { dst := d, op := .load 82 x, type := t, pos := p, after := af, guard := g }).run Tryz.prog w = ((ldT (ρ x)).run Tryz.prog w).andThen fun v w' => .ok (.value v) w' := by
  unfold execOp ldT
  simp only [Sem.run_bind, Sem.run_pure]
theorem stT_exec (ρ : Operand → Value) (d : Option Tmp) (x y : Operand) (t : TypeId) (p : String) (af : Array Edge) (g : Option (Nat × Bool)) (w : World) : (execOp ρ { dst := d, op := .store 82 x y, type := t, pos := p, after := af, guard := g }).run Tryz.prog w = ((stT (ρ x) (ρ y)).run Tryz.prog w).andThen fun _ w' => .ok .skip w' := by
  unfold execOp stT
  simp only [Sem.run_bind, Sem.run_pure]
def ldU (v : Value) : Sem Value := Instr.loadAt 84 v
def stU (v x : Value) : Sem Unit := Instr.storeAt 84 v x
theorem ldU_exec (ρ : Operand → Value) (d : Option Tmp) (x : Operand) (t : TypeId) (p : String) (af : Array Edge) (g : Option (Nat × Bool)) (w : World) : (execOp ρ { dst := d, op := .load 84 x, type := t, pos := p, after := af, guard := g }).run Tryz.prog w = ((ldU (ρ x)).run Tryz.prog w).andThen fun v w' => .ok (.value v) w' := by
  unfold execOp ldU
  simp only [Sem.run_bind, Sem.run_pure]
theorem stU_exec (ρ : Operand → Value) (d : Option Tmp) (x y : Operand) (t : TypeId) (p : String) (af : Array Edge) (g : Option (Nat × Bool)) (w : World) : (execOp ρ { dst := d, op := .store 84 x y, type := t, pos := p, after := af, guard := g }).run Tryz.prog w = ((stU (ρ x) (ρ y)).run Tryz.prog w).andThen fun _ w' => .ok .skip w' := by
  unfold execOp stU
  simp only [Sem.run_bind, Sem.run_pure]
end Go.Proofs.YtkbbhllchombdaaGreatDoor
