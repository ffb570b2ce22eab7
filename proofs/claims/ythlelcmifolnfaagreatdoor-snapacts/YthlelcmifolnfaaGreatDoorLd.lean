import Derived.Test.YthlelcmifolnfaaGreatDoorOnceTo
import Derived.Test.YthlelcmifolnfaaGreatDoorChecked
import Derived.Deep.MidRow
namespace Go.Proofs.YthlelcmifolnfaaGreatDoor
open Go.RowKit

theorem oc_int (k : IntKind) (n : Int) : (Value.int k n).oneCell' = true := rfl
theorem oc_bool (b : Bool) : (Value.bool b).oneCell' = true := rfl
theorem oc_string (s : ByteArray) : (Value.string s).oneCell' = true := rfl
theorem oc_slice (a : Option Addr) (n c : Nat) : (Value.slice a n c).oneCell' = true := rfl
theorem oc_pointer (a : Option Addr) : (Value.pointer a).oneCell' = true := rfl

def ldS (v : Value) : Sem Value := Instr.loadAt 27 v
def stS (v x : Value) : Sem Unit := Instr.storeAt 27 v x
theorem ldS_exec (ρ : Operand → Value) (d : Option Tmp) (x : Operand) (t : TypeId) (p : String) (af : Array Edge) (g : Option (Nat × Bool)) (w : World) : (execOp ρ { dst := d, op := .load 27 x, type := t, pos := p, after := af, guard := g }).run Tryz.prog w = ((ldS (ρ x)).run Tryz.prog w).andThen fun v w' => .ok (.value v) w' := by
  unfold execOp ldS
  simp only [Sem.run_bind, Sem.run_pure]
theorem stS_exec (ρ : Operand → Value) (d : Option Tmp) (x y : Operand) (t : TypeId) (p : String) (af : Array Edge) (g : Option (Nat × Bool)) (w : World) : (execOp ρ { dst := d, op := .store 27 x y, type := t, pos := p, after := af, guard := g }).run Tryz.prog w = ((stS (ρ x) (ρ y)).run Tryz.prog w).andThen fun _ w' => .ok .skip w' := by
  unfold execOp stS
  simp only [Sem.run_bind, Sem.run_pure]
theorem ldS_run (w : World) (b o : Nat) (h : (w.cell? ⟨b, o, none⟩).isSome = true ∧ (w.cell? ⟨b, o + 1, none⟩).isSome = true ∧ (w.cell? ⟨b, o + 2, none⟩).isSome = true ∧ (w.cell? ⟨b, o + 3, none⟩).isSome = true ∧ (w.cell? ⟨b, o + 4, none⟩).isSome = true) : (ldS (.pointer (some ⟨b, o, none⟩))).run Tryz.prog w = .ok (.agg #[(w.cell? ⟨b, o, none⟩).getD undef, (w.cell? ⟨b, o + 1, none⟩).getD undef, (w.cell? ⟨b, o + 2, none⟩).getD undef, (w.cell? ⟨b, o + 3, none⟩).getD undef, (w.cell? ⟨b, o + 4, none⟩).getD undef]) w := by
  obtain ⟨h0, h1, h2, h3, h4⟩ := h
  obtain ⟨v0, e0⟩ := Option.isSome_iff_exists.1 h0
  obtain ⟨v1, e1⟩ := Option.isSome_iff_exists.1 h1
  obtain ⟨v2, e2⟩ := Option.isSome_iff_exists.1 h2
  obtain ⟨v3, e3⟩ := Option.isSome_iff_exists.1 h3
  obtain ⟨v4, e4⟩ := Option.isSome_iff_exists.1 h4
  rw [e0, e1, e2, e3, e4]
  refine run_loadAt_mid w b o 27 [v0, v1, v2, v3, v4] _ ?_ Tryz.underlying27 rfl (by kernel_rfl)
  intro j v hj
  rcases j with _ | j
  · simp at hj; subst hj; exact e0
  rcases j with _ | j
  · simp at hj; subst hj; exact e1
  rcases j with _ | j
  · simp at hj; subst hj; exact e2
  rcases j with _ | j
  · simp at hj; subst hj; exact e3
  rcases j with _ | j
  · simp at hj; subst hj; exact e4
  · simp at hj
theorem stS_run (w : World) (b o : Nat) (v0 v1 v2 v3 v4 : Value) (h : (w.cell? ⟨b, o, none⟩).isSome = true ∧ w.frozen? ⟨b, o, none⟩ = false ∧ (w.cell? ⟨b, o + 1, none⟩).isSome = true ∧ w.frozen? ⟨b, o + 1, none⟩ = false ∧ (w.cell? ⟨b, o + 2, none⟩).isSome = true ∧ w.frozen? ⟨b, o + 2, none⟩ = false ∧ (w.cell? ⟨b, o + 3, none⟩).isSome = true ∧ w.frozen? ⟨b, o + 3, none⟩ = false ∧ (w.cell? ⟨b, o + 4, none⟩).isSome = true ∧ w.frozen? ⟨b, o + 4, none⟩ = false) (hone : v0.oneCell' = true ∧ v1.oneCell' = true ∧ v2.oneCell' = true ∧ v3.oneCell' = true ∧ v4.oneCell' = true) : (stS (.pointer (some ⟨b, o, none⟩)) (.agg #[v0, v1, v2, v3, v4])).run Tryz.prog w = .ok () (((((w.setCell ⟨b, o, none⟩ v0).setCell ⟨b, o + 1, none⟩ v1).setCell ⟨b, o + 2, none⟩ v2).setCell ⟨b, o + 3, none⟩ v3).setCell ⟨b, o + 4, none⟩ v4) := by
  obtain ⟨h0, f0, h1, f1, h2, f2, h3, f3, h4, f4⟩ := h
  obtain ⟨o0, o1, o2, o3, o4⟩ := hone
  refine (run_storeAt_mid w b o 27 #[v0, v1, v2, v3, v4] ?_ (by kernel_rfl) ?_).trans rfl
  · intro j hj
    rcases j with _ | j
    · exact ⟨h0, f0⟩
    rcases j with _ | j
    · exact ⟨h1, f1⟩
    rcases j with _ | j
    · exact ⟨h2, f2⟩
    rcases j with _ | j
    · exact ⟨h3, f3⟩
    rcases j with _ | j
    · exact ⟨h4, f4⟩
    · exact absurd hj (by show ¬ (j + 5 < 5); omega)
  · refine all_oneCell_toArray (cs := [v0, v1, v2, v3, v4]) ?_
    intro v hv
    simp only [List.mem_cons, List.not_mem_nil, or_false] at hv
    rcases hv with rfl | rfl | rfl | rfl | rfl
    · exact o0
    · exact o1
    · exact o2
    · exact o3
    · exact o4

end Go.Proofs.YthlelcmifolnfaaGreatDoor
