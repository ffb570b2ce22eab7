import Derived.Test.YtojfihfdnchkeaaGreatDoorBase
import Derived.Test.YtojfihfdnchkeaaGreatDoorChecked
import Derived.Deep.MidRow
namespace Go.Proofs.YtojfihfdnchkeaaGreatDoor
open Go.RowKit

theorem oc_int (k : IntKind) (n : Int) : (Value.int k n).oneCell' = true := rfl
theorem oc_bool (b : Bool) : (Value.bool b).oneCell' = true := rfl
theorem oc_string (s : ByteArray) : (Value.string s).oneCell' = true := rfl
theorem oc_slice (a : Option Addr) (n c : Nat) : (Value.slice a n c).oneCell' = true := rfl
theorem oc_pointer (a : Option Addr) : (Value.pointer a).oneCell' = true := rfl

def ldE (v : Value) : Sem Value := Instr.loadAt 100 v
def stE (v x : Value) : Sem Unit := Instr.storeAt 100 v x
theorem ldE_exec (ρ : Operand → Value) (d : Option Tmp) (x : Operand) (t : TypeId) (p : String) (af : Array Edge) (g : Option (Nat × Bool)) (w : World) : (execOp ρ { dst := d, op := .load 100 x, type := t, pos := p, after := af, guard := g }).run Tryz.prog w = ((ldE (ρ x)).run Tryz.prog w).andThen fun v w' => .ok (.value v) w' := by
  unfold execOp ldE
  simp only [Sem.run_bind, Sem.run_pure]
theorem stE_exec (ρ : Operand → Value) (d : Option Tmp) (x y : Operand) (t : TypeId) (p : String) (af : Array Edge) (g : Option (Nat × Bool)) (w : World) : (execOp ρ { dst := d, op := .store 100 x y, type := t, pos := p, after := af, guard := g }).run Tryz.prog w = ((stE (ρ x) (ρ y)).run Tryz.prog w).andThen fun _ w' => .ok .skip w' := by
  unfold execOp stE
  simp only [Sem.run_bind, Sem.run_pure]
theorem stE_run (w : World) (b o : Nat) (v0 v1 v2 v3 v4 v5 v6 v7 v8 v9 v10 v11 v12 : Value) (h : (w.cell? ⟨b, o, none⟩).isSome = true ∧ w.frozen? ⟨b, o, none⟩ = false ∧ (w.cell? ⟨b, o + 1, none⟩).isSome = true ∧ w.frozen? ⟨b, o + 1, none⟩ = false ∧ (w.cell? ⟨b, o + 2, none⟩).isSome = true ∧ w.frozen? ⟨b, o + 2, none⟩ = false ∧ (w.cell? ⟨b, o + 3, none⟩).isSome = true ∧ w.frozen? ⟨b, o + 3, none⟩ = false ∧ (w.cell? ⟨b, o + 4, none⟩).isSome = true ∧ w.frozen? ⟨b, o + 4, none⟩ = false ∧ (w.cell? ⟨b, o + 5, none⟩).isSome = true ∧ w.frozen? ⟨b, o + 5, none⟩ = false ∧ (w.cell? ⟨b, o + 6, none⟩).isSome = true ∧ w.frozen? ⟨b, o + 6, none⟩ = false ∧ (w.cell? ⟨b, o + 7, none⟩).isSome = true ∧ w.frozen? ⟨b, o + 7, none⟩ = false ∧ (w.cell? ⟨b, o + 8, none⟩).isSome = true ∧ w.frozen? ⟨b, o + 8, none⟩ = false ∧ (w.cell? ⟨b, o + 9, none⟩).isSome = true ∧ w.frozen? ⟨b, o + 9, none⟩ = false ∧ (w.cell? ⟨b, o + 10, none⟩).isSome = true ∧ w.frozen? ⟨b, o + 10, none⟩ = false ∧ (w.cell? ⟨b, o + 11, none⟩).isSome = true ∧ w.frozen? ⟨b, o + 11, none⟩ = false ∧ (w.cell? ⟨b, o + 12, none⟩).isSome = true ∧ w.frozen? ⟨b, o + 12, none⟩ = false) (hone : v0.oneCell' = true ∧ v1.oneCell' = true ∧ v2.oneCell' = true ∧ v3.oneCell' = true ∧ v4.oneCell' = true ∧ v5.oneCell' = true ∧ v6.oneCell' = true ∧ v7.oneCell' = true ∧ v8.oneCell' = true ∧ v9.oneCell' = true ∧ v10.oneCell' = true ∧ v11.oneCell' = true ∧ v12.oneCell' = true) : (stE (.pointer (some ⟨b, o, none⟩)) (.agg #[v0, v1, v2, v3, v4, v5, v6, v7, v8, v9, v10, v11, v12])).run Tryz.prog w = .ok () (((((((((((((w.setCell ⟨b, o, none⟩ v0).setCell ⟨b, o + 1, none⟩ v1).setCell ⟨b, o + 2, none⟩ v2).setCell ⟨b, o + 3, none⟩ v3).setCell ⟨b, o + 4, none⟩ v4).setCell ⟨b, o + 5, none⟩ v5).setCell ⟨b, o + 6, none⟩ v6).setCell ⟨b, o + 7, none⟩ v7).setCell ⟨b, o + 8, none⟩ v8).setCell ⟨b, o + 9, none⟩ v9).setCell ⟨b, o + 10, none⟩ v10).setCell ⟨b, o + 11, none⟩ v11).setCell ⟨b, o + 12, none⟩ v12) := by
  obtain ⟨h0, f0, h1, f1, h2, f2, h3, f3, h4, f4, h5, f5, h6, f6, h7, f7, h8, f8, h9, f9, h10, f10, h11, f11, h12, f12⟩ := h
  obtain ⟨o0, o1, o2, o3, o4, o5, o6, o7, o8, o9, o10, o11, o12⟩ := hone
  refine (run_storeAt_mid w b o 100 #[v0, v1, v2, v3, v4, v5, v6, v7, v8, v9, v10, v11, v12] ?_ (by kernel_rfl) ?_).trans rfl
  · intro j hj
    rcases j with _ | j
    · exact ⟨h0, f0⟩
    rcases j with _ | j
    · exact ⟨h1, f1⟩
    rcases j with _ | j
    · exact ⟨h2, f2⟩
    rcases j with _ | j
    · exact ⟨h3, f3⟩
    rcases j with _ | j
    · exact ⟨h4, f4⟩
    rcases j with _ | j
    · exact ⟨h5, f5⟩
    rcases j with _ | j
    · exact ⟨h6, f6⟩
    rcases j with _ | j
    · exact ⟨h7, f7⟩
    rcases j with _ | j
    · exact ⟨h8, f8⟩
    rcases j with _ | j
    · exact ⟨h9, f9⟩
    rcases j with _ | j
    · exact ⟨h10, f10⟩
    rcases j with _ | j
    · exact ⟨h11, f11⟩
    rcases j with _ | j
    · exact ⟨h12, f12⟩
    · exact absurd hj (by show ¬ (j + 13 < 13); omega)
  · refine all_oneCell_toArray (cs := [v0, v1, v2, v3, v4, v5, v6, v7, v8, v9, v10, v11, v12]) ?_
    intro v hv
    simp only [List.mem_cons, List.not_mem_nil, or_false] at hv
    rcases hv with rfl | rfl | rfl | rfl | rfl | rfl | rfl | rfl | rfl | rfl | rfl | rfl | rfl
    · exact o0
    · exact o1
    · exact o2
    · exact o3
    · exact o4
    · exact o5
    · exact o6
    · exact o7
    · exact o8
    · exact o9
    · exact o10
    · exact o11
    · exact o12

def ldC (v : Value) : Sem Value := Instr.loadAt 98 v
def stC (v x : Value) : Sem Unit := Instr.storeAt 98 v x
theorem ldC_exec (ρ : Operand → Value) (d : Option Tmp) (x : Operand) (t : TypeId) (p : String) (af : Array Edge) (g : Option (Nat × Bool)) (w : World) : (execOp ρ { dst := d, op := .load 98 x, type := t, pos := p, after := af, guard := g }).run Tryz.prog w = ((ldC (ρ x)).run Tryz.prog w).andThen fun v w' => .ok (.value v) w' := by
  unfold execOp ldC
  simp only [Sem.run_bind, Sem.run_pure]
theorem stC_exec (ρ : Operand → Value) (d : Option Tmp) (x y : Operand) (t : TypeId) (p : String) (af : Array Edge) (g : Option (Nat × Bool)) (w : World) : (execOp ρ { dst := d, op := .store 98 x y, type := t, pos := p, after := af, guard := g }).run Tryz.prog w = ((stC (ρ x) (ρ y)).run Tryz.prog w).andThen fun _ w' => .ok .skip w' := by
  unfold execOp stC
  simp only [Sem.run_bind, Sem.run_pure]
def ldS (v : Value) : Sem Value := Instr.loadAt 47 v
def stS (v x : Value) : Sem Unit := Instr.storeAt 47 v x
theorem ldS_exec (ρ : Operand → Value) (d : Option Tmp) (x : Operand) (t : TypeId) (p : String) (af : Array Edge) (g : Option (Nat × Bool)) (w : World) : (execOp ρ { dst := d, op := .load 47 x, type := t, pos := p, after := af, guard := g }).run Tryz.prog w = ((ldS (ρ x)).run Tryz.prog w).andThen fun v w' => .ok (.value v) w' := by
  unfold execOp ldS
  simp only [Sem.run_bind, Sem.run_pure]
theorem stS_exec (ρ : Operand → Value) (d : Option Tmp) (x y : Operand) (t : TypeId) (p : String) (af : Array Edge) (g : Option (Nat × Bool)) (w : World) : (execOp ρ { dst := d, op := .store 47 x y, type := t, pos := p, after := af, guard := g }).run Tryz.prog w = ((stS (ρ x) (ρ y)).run Tryz.prog w).andThen fun _ w' => .ok .skip w' := by
  unfold execOp stS
  simp only [Sem.run_bind, Sem.run_pure]
theorem ldS_run (w : World) (b o : Nat) (h : (w.cell? ⟨b, o, none⟩).isSome = true ∧ (w.cell? ⟨b, o + 1, none⟩).isSome = true ∧ (w.cell? ⟨b, o + 2, none⟩).isSome = true ∧ (w.cell? ⟨b, o + 3, none⟩).isSome = true ∧ (w.cell? ⟨b, o + 4, none⟩).isSome = true) : (ldS (.pointer (some ⟨b, o, none⟩))).run Tryz.prog w = .ok (.agg #[(w.cell? ⟨b, o, none⟩).getD undef, (w.cell? ⟨b, o + 1, none⟩).getD undef, (w.cell? ⟨b, o + 2, none⟩).getD undef, (w.cell? ⟨b, o + 3, none⟩).getD undef, (w.cell? ⟨b, o + 4, none⟩).getD undef]) w := by
  obtain ⟨h0, h1, h2, h3, h4⟩ := h
  obtain ⟨v0, e0⟩ := Option.isSome_iff_exists.1 h0
  obtain ⟨v1, e1⟩ := Option.isSome_iff_exists.1 h1
  obtain ⟨v2, e2⟩ := Option.isSome_iff_exists.1 h2
  obtain ⟨v3, e3⟩ := Option.isSome_iff_exists.1 h3
  obtain ⟨v4, e4⟩ := Option.isSome_iff_exists.1 h4
  rw [e0, e1, e2, e3, e4]
  refine run_loadAt_mid w b o 47 [v0, v1, v2, v3, v4] _ ?_ Tryz.underlying47 rfl (by kernel_rfl)
  intro j v hj
  rcases j with _ | j
  · simp at hj; subst hj; exact e0
  rcases j with _ | j
  · simp at hj; subst hj; exact e1
  rcases j with _ | j
  · simp at hj; subst hj; exact e2
  rcases j with _ | j
  · simp at hj; subst hj; exact e3
  rcases j with _ | j
  · simp at hj; subst hj; exact e4
  · simp at hj
theorem stS_run (w : World) (b o : Nat) (v0 v1 v2 v3 v4 : Value) (h : (w.cell? ⟨b, o, none⟩).isSome = true ∧ w.frozen? ⟨b, o, none⟩ = false ∧ (w.cell? ⟨b, o + 1, none⟩).isSome = true ∧ w.frozen? ⟨b, o + 1, none⟩ = false ∧ (w.cell? ⟨b, o + 2, none⟩).isSome = true ∧ w.frozen? ⟨b, o + 2, none⟩ = false ∧ (w.cell? ⟨b, o + 3, none⟩).isSome = true ∧ w.frozen? ⟨b, o + 3, none⟩ = false ∧ (w.cell? ⟨b, o + 4, none⟩).isSome = true ∧ w.frozen? ⟨b, o + 4, none⟩ = false) (hone : v0.oneCell' = true ∧ v1.oneCell' = true ∧ v2.oneCell' = true ∧ v3.oneCell' = true ∧ v4.oneCell' = true) : (stS (.pointer (some ⟨b, o, none⟩)) (.agg #[v0, v1, v2, v3, v4])).run Tryz.prog w = .ok () (((((w.setCell ⟨b, o, none⟩ v0).setCell ⟨b, o + 1, none⟩ v1).setCell ⟨b, o + 2, none⟩ v2).setCell ⟨b, o + 3, none⟩ v3).setCell ⟨b, o + 4, none⟩ v4) := by
  obtain ⟨h0, f0, h1, f1, h2, f2, h3, f3, h4, f4⟩ := h
  obtain ⟨o0, o1, o2, o3, o4⟩ := hone
  refine (run_storeAt_mid w b o 47 #[v0, v1, v2, v3, v4] ?_ (by kernel_rfl) ?_).trans rfl
  · intro j hj
    rcases j with _ | j
    · exact ⟨h0, f0⟩
    rcases j with _ | j
    · exact ⟨h1, f1⟩
    rcases j with _ | j
    · exact ⟨h2, f2⟩
    rcases j with _ | j
    · exact ⟨h3, f3⟩
    rcases j with _ | j
    · exact ⟨h4, f4⟩
    · exact absurd hj (by show ¬ (j + 5 < 5); omega)
  · refine all_oneCell_toArray (cs := [v0, v1, v2, v3, v4]) ?_
    intro v hv
    simp only [List.mem_cons, List.not_mem_nil, or_false] at hv
    rcases hv with rfl | rfl | rfl | rfl | rfl
    · exact o0
    · exact o1
    · exact o2
    · exact o3
    · exact o4

def ldW (v : Value) : Sem Value := Instr.loadAt 232 v
def stW (v x : Value) : Sem Unit := Instr.storeAt 232 v x
theorem ldW_exec (ρ : Operand → Value) (d : Option Tmp) (x : Operand) (t : TypeId) (p : String) (af : Array Edge) (g : Option (Nat × Bool)) (w : World) : (execOp ρ { dst := d, op := .load 232 x, type := t, pos := p, after := af, guard := g }).run Tryz.prog w = ((ldW (ρ x)).run Tryz.prog w).andThen fun v w' => .ok (.value v) w' := by
  unfold execOp ldW
  simp only [Sem.run_bind, Sem.run_pure]
theorem stW_exec (ρ : Operand → Value) (d : Option Tmp) (x y : Operand) (t : TypeId) (p : String) (af : Array Edge) (g : Option (Nat × Bool)) (w : World) : (execOp ρ { dst := d, op := .store 232 x y, type := t, pos := p, after := af, guard := g }).run Tryz.prog w = ((stW (ρ x) (ρ y)).run Tryz.prog w).andThen fun _ w' => .ok .skip w' := by
  unfold execOp stW
  simp only [Sem.run_bind, Sem.run_pure]
def ldR (v : Value) : Sem Value := Instr.loadAt 193 v
def stR (v x : Value) : Sem Unit := Instr.storeAt 193 v x
theorem ldR_exec (ρ : Operand → Value) (d : Option Tmp) (x : Operand) (t : TypeId) (p : String) (af : Array Edge) (g : Option (Nat × Bool)) (w : World) : (execOp ρ { dst := d, op := .load 193 x, type := t, pos := p, after := af, guard := g }).run Tryz.prog w = ((ldR (ρ x)).run Tryz.prog w).andThen fun v w' => .ok (.value v) w' := by
  unfold execOp ldR
  simp only [Sem.run_bind, Sem.run_pure]
theorem stR_exec (ρ : Operand → Value) (d : Option Tmp) (x y : Operand) (t : TypeId) (p : String) (af : Array Edge) (g : Option (Nat × Bool)) (w : World) : (execOp ρ { dst := d, op := .store 193 x y, type := t, pos := p, after := af, guard := g }).run Tryz.prog w = ((stR (ρ x) (ρ y)).run Tryz.prog w).andThen fun _ w' => .ok .skip w' := by
  unfold execOp stR
  simp only [Sem.run_bind, Sem.run_pure]
def ldT (v : Value) : Sem Value := Instr.loadAt 103 v
def stT (v x : Value) : Sem Unit := Instr.storeAt 103 v x
theorem ldT_exec (ρ : Operand → Value) (d : Option Tmp) (x : Operand) (t : TypeId) (p : String) (af : Array Edge) (g : Option (Nat × Bool)) (w : World) : (execOp ρ { dst := d, op := .load 103 x, type := t, pos := p, after := af, guard := g }).run Tryz.prog w = ((ldT (ρ x)).run Tryz.prog w).andThen fun v w' => .ok (.value v) w' := by
  unfold execOp ldT
  simp only [Sem.run_bind, Sem.run_pure]
theorem stT_exec (ρ : Operand → Value) (d : Option Tmp) (x y : Operand) (t : TypeId) (p : String) (af : Array Edge) (g : Option (Nat × Bool)) (w : World) : (execOp ρ { dst := d, op := .store 103 x y, type := t, pos := p, after := af, guard := g }).run Tryz.prog w = ((stT (ρ x) (ρ y)).run Tryz.prog w).andThen fun _ w' => .ok .skip w' := by
  unfold execOp stT
  simp only [Sem.run_bind, Sem.run_pure]
def ldU (v : Value) : Sem Value := Instr.loadAt 114 v
def stU (v x : Value) : Sem Unit := Instr.storeAt 114 v x
theorem ldU_exec (ρ : Operand → Value) (d : Option Tmp) (x : Operand) (t : TypeId) (p : String) (af : Array Edge) (g : Option (Nat × Bool)) (w : World) : (execOp ρ { dst := d, op := .load 114 x, type := t, pos := p, after := af, guard := g }).run Tryz.prog w = ((ldU (ρ x)).run Tryz.prog w).andThen fun v w' => .ok (.value v) w' := by
  unfold execOp ldU
  simp only [Sem.run_bind, Sem.run_pure]
theorem stU_exec (ρ : Operand → Value) (d : Option Tmp) (x y : Operand) (t : TypeId) (p : String) (af : Array Edge) (g : Option (Nat × Bool)) (w : World) : (execOp ρ { dst := d, op := .store 114 x y, type := t, pos := p, after := af, guard := g }).run Tryz.prog w = ((stU (ρ x) (ρ y)).run Tryz.prog w).andThen fun _ w' => .ok .skip w' := by
  unfold execOp stU
  simp only [Sem.run_bind, Sem.run_pure]
end Go.Proofs.YtojfihfdnchkeaaGreatDoor
