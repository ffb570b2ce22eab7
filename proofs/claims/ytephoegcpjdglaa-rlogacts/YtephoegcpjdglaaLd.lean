import Derived.Test.YtephoegcpjdglaaOnceTo
import Derived.Test.YtephoegcpjdglaaChecked
import Derived.Deep.MidRow
namespace Go.Proofs.Ytephoegcpjdglaa
open Go.RowKit

theorem oc_int (k : IntKind) (n : Int) : (Value.int k n).oneCell' = true := rfl
theorem oc_bool (b : Bool) : (Value.bool b).oneCell' = true := rfl
theorem oc_string (s : ByteArray) : (Value.string s).oneCell' = true := rfl
theorem oc_slice (a : Option Addr) (n c : Nat) : (Value.slice a n c).oneCell' = true := rfl
theorem oc_pointer (a : Option Addr) : (Value.pointer a).oneCell' = true := rfl

def ldE (v : Value) : Sem Value := Instr.loadAt 51 v
def stE (v x : Value) : Sem Unit := Instr.storeAt 51 v x
theorem ldE_exec (ρ : Operand → Value) (d : Option Tmp) (x : Operand) (t : TypeId) (p : String) (af : Array Edge) (g : Option (Nat × Bool)) (w : World) : (execOp ρ { dst := d, op := .load 51 x, type := t, pos := p, after := af, guard := g }).run Try.prog w = ((ldE (ρ x)).run Try.prog w).andThen fun v w' => .ok (.value v) w' := by
  unfold execOp ldE
  simp only [Sem.run_bind, Sem.run_pure]
theorem stE_exec (ρ : Operand → Value) (d : Option Tmp) (x y : Operand) (t : TypeId) (p : String) (af : Array Edge) (g : Option (Nat × Bool)) (w : World) : (execOp ρ { dst := d, op := .store 51 x y, type := t, pos := p, after := af, guard := g }).run Try.prog w = ((stE (ρ x) (ρ y)).run Try.prog w).andThen fun _ w' => .ok .skip w' := by
  unfold execOp stE
  simp only [Sem.run_bind, Sem.run_pure]
theorem ldE_run (w : World) (b o : Nat) (h : (w.cell? ⟨b, o, none⟩).isSome = true ∧ (w.cell? ⟨b, o + 1, none⟩).isSome = true ∧ (w.cell? ⟨b, o + 2, none⟩).isSome = true ∧ (w.cell? ⟨b, o + 3, none⟩).isSome = true ∧ (w.cell? ⟨b, o + 4, none⟩).isSome = true ∧ (w.cell? ⟨b, o + 5, none⟩).isSome = true ∧ (w.cell? ⟨b, o + 6, none⟩).isSome = true ∧ (w.cell? ⟨b, o + 7, none⟩).isSome = true ∧ (w.cell? ⟨b, o + 8, none⟩).isSome = true ∧ (w.cell? ⟨b, o + 9, none⟩).isSome = true ∧ (w.cell? ⟨b, o + 10, none⟩).isSome = true ∧ (w.cell? ⟨b, o + 11, none⟩).isSome = true ∧ (w.cell? ⟨b, o + 12, none⟩).isSome = true) : (ldE (.pointer (some ⟨b, o, none⟩))).run Try.prog w = .ok (.agg #[(w.cell? ⟨b, o, none⟩).getD undef, (w.cell? ⟨b, o + 1, none⟩).getD undef, (w.cell? ⟨b, o + 2, none⟩).getD undef, (w.cell? ⟨b, o + 3, none⟩).getD undef, (w.cell? ⟨b, o + 4, none⟩).getD undef, (w.cell? ⟨b, o + 5, none⟩).getD undef, (w.cell? ⟨b, o + 6, none⟩).getD undef, (w.cell? ⟨b, o + 7, none⟩).getD undef, (w.cell? ⟨b, o + 8, none⟩).getD undef, (w.cell? ⟨b, o + 9, none⟩).getD undef, (w.cell? ⟨b, o + 10, none⟩).getD undef, (w.cell? ⟨b, o + 11, none⟩).getD undef, (w.cell? ⟨b, o + 12, none⟩).getD undef]) w := by
  obtain ⟨h0, h1, h2, h3, h4, h5, h6, h7, h8, h9, h10, h11, h12⟩ := h
  obtain ⟨v0, e0⟩ := Option.isSome_iff_exists.1 h0
  obtain ⟨v1, e1⟩ := Option.isSome_iff_exists.1 h1
  obtain ⟨v2, e2⟩ := Option.isSome_iff_exists.1 h2
  obtain ⟨v3, e3⟩ := Option.isSome_iff_exists.1 h3
  obtain ⟨v4, e4⟩ := Option.isSome_iff_exists.1 h4
  obtain ⟨v5, e5⟩ := Option.isSome_iff_exists.1 h5
  obtain ⟨v6, e6⟩ := Option.isSome_iff_exists.1 h6
  obtain ⟨v7, e7⟩ := Option.isSome_iff_exists.1 h7
  obtain ⟨v8, e8⟩ := Option.isSome_iff_exists.1 h8
  obtain ⟨v9, e9⟩ := Option.isSome_iff_exists.1 h9
  obtain ⟨v10, e10⟩ := Option.isSome_iff_exists.1 h10
  obtain ⟨v11, e11⟩ := Option.isSome_iff_exists.1 h11
  obtain ⟨v12, e12⟩ := Option.isSome_iff_exists.1 h12
  rw [e0, e1, e2, e3, e4, e5, e6, e7, e8, e9, e10, e11, e12]
  refine run_loadAt_mid w b o 51 [v0, v1, v2, v3, v4, v5, v6, v7, v8, v9, v10, v11, v12] _ ?_ Try.underlying51 rfl (by kernel_rfl)
  intro j v hj
  rcases j with _ | j
  · simp at hj; subst hj; exact e0
  rcases j with _ | j
  · simp at hj; subst hj; exact e1
  rcases j with _ | j
  · simp at hj; subst hj; exact e2
  rcases j with _ | j
  · simp at hj; subst hj; exact e3
  rcases j with _ | j
  · simp at hj; subst hj; exact e4
  rcases j with _ | j
  · simp at hj; subst hj; exact e5
  rcases j with _ | j
  · simp at hj; subst hj; exact e6
  rcases j with _ | j
  · simp at hj; subst hj; exact e7
  rcases j with _ | j
  · simp at hj; subst hj; exact e8
  rcases j with _ | j
  · simp at hj; subst hj; exact e9
  rcases j with _ | j
  · simp at hj; subst hj; exact e10
  rcases j with _ | j
  · simp at hj; subst hj; exact e11
  rcases j with _ | j
  · simp at hj; subst hj; exact e12
  · simp at hj
theorem stE_run (w : World) (b o : Nat) (v0 v1 v2 v3 v4 v5 v6 v7 v8 v9 v10 v11 v12 : Value) (h : (w.cell? ⟨b, o, none⟩).isSome = true ∧ w.frozen? ⟨b, o, none⟩ = false ∧ (w.cell? ⟨b, o + 1, none⟩).isSome = true ∧ w.frozen? ⟨b, o + 1, none⟩ = false ∧ (w.cell? ⟨b, o + 2, none⟩).isSome = true ∧ w.frozen? ⟨b, o + 2, none⟩ = false ∧ (w.cell? ⟨b, o + 3, none⟩).isSome = true ∧ w.frozen? ⟨b, o + 3, none⟩ = false ∧ (w.cell? ⟨b, o + 4, none⟩).isSome = true ∧ w.frozen? ⟨b, o + 4, none⟩ = false ∧ (w.cell? ⟨b, o + 5, none⟩).isSome = true ∧ w.frozen? ⟨b, o + 5, none⟩ = false ∧ (w.cell? ⟨b, o + 6, none⟩).isSome = true ∧ w.frozen? ⟨b, o + 6, none⟩ = false ∧ (w.cell? ⟨b, o + 7, none⟩).isSome = true ∧ w.frozen? ⟨b, o + 7, none⟩ = false ∧ (w.cell? ⟨b, o + 8, none⟩).isSome = true ∧ w.frozen? ⟨b, o + 8, none⟩ = false ∧ (w.cell? ⟨b, o + 9, none⟩).isSome = true ∧ w.frozen? ⟨b, o + 9, none⟩ = false ∧ (w.cell? ⟨b, o + 10, none⟩).isSome = true ∧ w.frozen? ⟨b, o + 10, none⟩ = false ∧ (w.cell? ⟨b, o + 11, none⟩).isSome = true ∧ w.frozen? ⟨b, o + 11, none⟩ = false ∧ (w.cell? ⟨b, o + 12, none⟩).isSome = true ∧ w.frozen? ⟨b, o + 12, none⟩ = false) (hone : v0.oneCell' = true ∧ v1.oneCell' = true ∧ v2.oneCell' = true ∧ v3.oneCell' = true ∧ v4.oneCell' = true ∧ v5.oneCell' = true ∧ v6.oneCell' = true ∧ v7.oneCell' = true ∧ v8.oneCell' = true ∧ v9.oneCell' = true ∧ v10.oneCell' = true ∧ v11.oneCell' = true ∧ v12.oneCell' = true) : (stE (.pointer (some ⟨b, o, none⟩)) (.agg #[v0, v1, v2, v3, v4, v5, v6, v7, v8, v9, v10, v11, v12])).run Try.prog w = .ok () (((((((((((((w.setCell ⟨b, o, none⟩ v0).setCell ⟨b, o + 1, none⟩ v1).setCell ⟨b, o + 2, none⟩ v2).setCell ⟨b, o + 3, none⟩ v3).setCell ⟨b, o + 4, none⟩ v4).setCell ⟨b, o + 5, none⟩ v5).setCell ⟨b, o + 6, none⟩ v6).setCell ⟨b, o + 7, none⟩ v7).setCell ⟨b, o + 8, none⟩ v8).setCell ⟨b, o + 9, none⟩ v9).setCell ⟨b, o + 10, none⟩ v10).setCell ⟨b, o + 11, none⟩ v11).setCell ⟨b, o + 12, none⟩ v12) := by
  obtain ⟨h0, f0, h1, f1, h2, f2, h3, f3, h4, f4, h5, f5, h6, f6, h7, f7, h8, f8, h9, f9, h10, f10, h11, f11, h12, f12⟩ := h
  obtain ⟨o0, o1, o2, o3, o4, o5, o6, o7, o8, o9, o10, o11, o12⟩ := hone
  refine (run_storeAt_mid w b o 51 #[v0, v1, v2, v3, v4, v5, v6, v7, v8, v9, v10, v11, v12] ?_ (by kernel_rfl) ?_).trans rfl
  · intro j hj
    rcases j with _ | j
    · exact ⟨h0, f0⟩
    rcases j with _ | j
    · exact ⟨h1, f1⟩
    rcases j with _ | j
    · exact ⟨h2, f2⟩
    rcases j with _ | j
    · exact ⟨h3, f3⟩
    rcases j with _ | j
    · exact ⟨h4, f4⟩
    rcases j with _ | j
    · exact ⟨h5, f5⟩
    rcases j with _ | j
    · exact ⟨h6, f6⟩
    rcases j with _ | j
    · exact ⟨h7, f7⟩
    rcases j with _ | j
    · exact ⟨h8, f8⟩
    rcases j with _ | j
    · exact ⟨h9, f9⟩
    rcases j with _ | j
    · exact ⟨h10, f10⟩
    rcases j with _ | j
    · exact ⟨h11, f11⟩
    rcases j with _ | j
    · exact ⟨h12, f12⟩
    · exact absurd hj (by show ¬ (j + 13 < 13); omega)
  · refine all_oneCell_toArray (cs := [v0, v1, v2, v3, v4, v5, v6, v7, v8, v9, v10, v11, v12]) ?_
    intro v hv
    simp only [List.mem_cons, List.not_mem_nil, or_false] at hv
    rcases hv with rfl | rfl | rfl | rfl | rfl | rfl | rfl | rfl | rfl | rfl | rfl | rfl | rfl
    · exact o0
    · exact o1
    · exact o2
    · exact o3
    · exact o4
    · exact o5
    · exact o6
    · exact o7
    · exact o8
    · exact o9
    · exact o10
    · exact o11
    · exact o12

def ldC (v : Value) : Sem Value := Instr.loadAt 46 v
def stC (v x : Value) : Sem Unit := Instr.storeAt 46 v x
theorem ldC_exec (ρ : Operand → Value) (d : Option Tmp) (x : Operand) (t : TypeId) (p : String) (af : Array Edge) (g : Option (Nat × Bool)) (w : World) : (execOp ρ { dst := d, op := .load 46 x, type := t, pos := p, after := af, guard := g }).run Try.prog w = ((ldC (ρ x)).run Try.prog w).andThen fun v w' => .ok (.value v) w' := by
  unfold execOp ldC
  simp only [Sem.run_bind, Sem.run_pure]
theorem stC_exec (ρ : Operand → Value) (d : Option Tmp) (x y : Operand) (t : TypeId) (p : String) (af : Array Edge) (g : Option (Nat × Bool)) (w : World) : (execOp ρ { dst := d, op := .store 46 x y, type := t, pos := p, after := af, guard := g }).run Try.prog w = ((stC (ρ x) (ρ y)).run Try.prog w).andThen fun _ w' => .ok .skip w' := by
  unfold execOp stC
  simp only [Sem.run_bind, Sem.run_pure]
theorem ldC_run (w : World) (b o : Nat) (h : (w.cell? ⟨b, o, none⟩).isSome = true ∧ (w.cell? ⟨b, o + 1, none⟩).isSome = true ∧ (w.cell? ⟨b, o + 2, none⟩).isSome = true ∧ (w.cell? ⟨b, o + 3, none⟩).isSome = true ∧ (w.cell? ⟨b, o + 4, none⟩).isSome = true ∧ (w.cell? ⟨b, o + 5, none⟩).isSome = true ∧ (w.cell? ⟨b, o + 6, none⟩).isSome = true ∧ (w.cell? ⟨b, o + 7, none⟩).isSome = true) : (ldC (.pointer (some ⟨b, o, none⟩))).run Try.prog w = .ok (.agg #[(w.cell? ⟨b, o, none⟩).getD undef, (w.cell? ⟨b, o + 1, none⟩).getD undef, (w.cell? ⟨b, o + 2, none⟩).getD undef, (w.cell? ⟨b, o + 3, none⟩).getD undef, (w.cell? ⟨b, o + 4, none⟩).getD undef, (w.cell? ⟨b, o + 5, none⟩).getD undef, (w.cell? ⟨b, o + 6, none⟩).getD undef, (w.cell? ⟨b, o + 7, none⟩).getD undef]) w := by
  obtain ⟨h0, h1, h2, h3, h4, h5, h6, h7⟩ := h
  obtain ⟨v0, e0⟩ := Option.isSome_iff_exists.1 h0
  obtain ⟨v1, e1⟩ := Option.isSome_iff_exists.1 h1
  obtain ⟨v2, e2⟩ := Option.isSome_iff_exists.1 h2
  obtain ⟨v3, e3⟩ := Option.isSome_iff_exists.1 h3
  obtain ⟨v4, e4⟩ := Option.isSome_iff_exists.1 h4
  obtain ⟨v5, e5⟩ := Option.isSome_iff_exists.1 h5
  obtain ⟨v6, e6⟩ := Option.isSome_iff_exists.1 h6
  obtain ⟨v7, e7⟩ := Option.isSome_iff_exists.1 h7
  rw [e0, e1, e2, e3, e4, e5, e6, e7]
  refine run_loadAt_mid w b o 46 [v0, v1, v2, v3, v4, v5, v6, v7] _ ?_ Try.underlying46 rfl (by kernel_rfl)
  intro j v hj
  rcases j with _ | j
  · simp at hj; subst hj; exact e0
  rcases j with _ | j
  · simp at hj; subst hj; exact e1
  rcases j with _ | j
  · simp at hj; subst hj; exact e2
  rcases j with _ | j
  · simp at hj; subst hj; exact e3
  rcases j with _ | j
  · simp at hj; subst hj; exact e4
  rcases j with _ | j
  · simp at hj; subst hj; exact e5
  rcases j with _ | j
  · simp at hj; subst hj; exact e6
  rcases j with _ | j
  · simp at hj; subst hj; exact e7
  · simp at hj
theorem stC_run (w : World) (b o : Nat) (v0 v1 v2 v3 v4 v5 v6 v7 : Value) (h : (w.cell? ⟨b, o, none⟩).isSome = true ∧ w.frozen? ⟨b, o, none⟩ = false ∧ (w.cell? ⟨b, o + 1, none⟩).isSome = true ∧ w.frozen? ⟨b, o + 1, none⟩ = false ∧ (w.cell? ⟨b, o + 2, none⟩).isSome = true ∧ w.frozen? ⟨b, o + 2, none⟩ = false ∧ (w.cell? ⟨b, o + 3, none⟩).isSome = true ∧ w.frozen? ⟨b, o + 3, none⟩ = false ∧ (w.cell? ⟨b, o + 4, none⟩).isSome = true ∧ w.frozen? ⟨b, o + 4, none⟩ = false ∧ (w.cell? ⟨b, o + 5, none⟩).isSome = true ∧ w.frozen? ⟨b, o + 5, none⟩ = false ∧ (w.cell? ⟨b, o + 6, none⟩).isSome = true ∧ w.frozen? ⟨b, o + 6, none⟩ = false ∧ (w.cell? ⟨b, o + 7, none⟩).isSome = true ∧ w.frozen? ⟨b, o + 7, none⟩ = false) (hone : v0.oneCell' = true ∧ v1.oneCell' = true ∧ v2.oneCell' = true ∧ v3.oneCell' = true ∧ v4.oneCell' = true ∧ v5.oneCell' = true ∧ v6.oneCell' = true ∧ v7.oneCell' = true) : (stC (.pointer (some ⟨b, o, none⟩)) (.agg #[v0, v1, v2, v3, v4, v5, v6, v7])).run Try.prog w = .ok () ((((((((w.setCell ⟨b, o, none⟩ v0).setCell ⟨b, o + 1, none⟩ v1).setCell ⟨b, o + 2, none⟩ v2).setCell ⟨b, o + 3, none⟩ v3).setCell ⟨b, o + 4, none⟩ v4).setCell ⟨b, o + 5, none⟩ v5).setCell ⟨b, o + 6, none⟩ v6).setCell ⟨b, o + 7, none⟩ v7) := by
  obtain ⟨h0, f0, h1, f1, h2, f2, h3, f3, h4, f4, h5, f5, h6, f6, h7, f7⟩ := h
  obtain ⟨o0, o1, o2, o3, o4, o5, o6, o7⟩ := hone
  refine (run_storeAt_mid w b o 46 #[v0, v1, v2, v3, v4, v5, v6, v7] ?_ (by kernel_rfl) ?_).trans rfl
  · intro j hj
    rcases j with _ | j
    · exact ⟨h0, f0⟩
    rcases j with _ | j
    · exact ⟨h1, f1⟩
    rcases j with _ | j
    · exact ⟨h2, f2⟩
    rcases j with _ | j
    · exact ⟨h3, f3⟩
    rcases j with _ | j
    · exact ⟨h4, f4⟩
    rcases j with _ | j
    · exact ⟨h5, f5⟩
    rcases j with _ | j
    · exact ⟨h6, f6⟩
    rcases j with _ | j
    · exact ⟨h7, f7⟩
    · exact absurd hj (by show ¬ (j + 8 < 8); omega)
  · refine all_oneCell_toArray (cs := [v0, v1, v2, v3, v4, v5, v6, v7]) ?_
    intro v hv
    simp only [List.mem_cons, List.not_mem_nil, or_false] at hv
    rcases hv with rfl | rfl | rfl | rfl | rfl | rfl | rfl | rfl
    · exact o0
    · exact o1
    · exact o2
    · exact o3
    · exact o4
    · exact o5
    · exact o6
    · exact o7

end Go.Proofs.Ytephoegcpjdglaa
