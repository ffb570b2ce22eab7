/-
  The walk of EntryMsgs.
-/
import Derived.Test.YtnbaoimjcaeeaaaGreatEt1
import Derived.Test.YtnbaoimjcaeeaaaGreatEt2
import Derived.Test.YtnbaoimjcaeeaaaGreatEt3
import Derived.Test.YtnbaoimjcaeeaaaGreatEq7To
import Derived.Test.YtnbaoimjcaeeaaaGreatEr6
import Derived.Deep.RegionHeld3
import Derived.Deep.MidRow
namespace Go.Proofs.YtnbaoimjcaeeaaaGreat
open Go.RowKit Go.Shelf

/-- The load of a message, by a name that the walk does not open. -/
def loadM (v : Value) : Sem Value := Instr.loadAt 53 v
theorem loadM_run (w : World) (b : Nat) (h : (w.cell? ⟨b, 0, none⟩).isSome = true ∧ (w.cell? ⟨b, 1, none⟩).isSome = true ∧ (w.cell? ⟨b, 2, none⟩).isSome = true ∧ (w.cell? ⟨b, 3, none⟩).isSome = true ∧ (w.cell? ⟨b, 4, none⟩).isSome = true ∧ (w.cell? ⟨b, 5, none⟩).isSome = true ∧ (w.cell? ⟨b, 6, none⟩).isSome = true ∧ (w.cell? ⟨b, 7, none⟩).isSome = true ∧ (w.cell? ⟨b, 8, none⟩).isSome = true ∧ (w.cell? ⟨b, 9, none⟩).isSome = true ∧ (w.cell? ⟨b, 10, none⟩).isSome = true ∧ (w.cell? ⟨b, 11, none⟩).isSome = true ∧ (w.cell? ⟨b, 12, none⟩).isSome = true ∧ (w.cell? ⟨b, 13, none⟩).isSome = true ∧ (w.cell? ⟨b, 14, none⟩).isSome = true ∧ (w.cell? ⟨b, 15, none⟩).isSome = true) : (loadM (.pointer (some ⟨b, 0, none⟩))).run Tryz.prog w = .ok (.agg #[(w.cell? ⟨b, 0, none⟩).getD undef, (w.cell? ⟨b, 1, none⟩).getD undef, (w.cell? ⟨b, 2, none⟩).getD undef, (w.cell? ⟨b, 3, none⟩).getD undef, (w.cell? ⟨b, 4, none⟩).getD undef, (w.cell? ⟨b, 5, none⟩).getD undef, (w.cell? ⟨b, 6, none⟩).getD undef, (w.cell? ⟨b, 7, none⟩).getD undef, (w.cell? ⟨b, 8, none⟩).getD undef, (w.cell? ⟨b, 9, none⟩).getD undef, (w.cell? ⟨b, 10, none⟩).getD undef, (w.cell? ⟨b, 11, none⟩).getD undef, (w.cell? ⟨b, 12, none⟩).getD undef, (w.cell? ⟨b, 13, none⟩).getD undef, (w.cell? ⟨b, 14, none⟩).getD undef, (w.cell? ⟨b, 15, none⟩).getD undef]) w := by
  obtain ⟨h0, h1, h2, h3, h4, h5, h6, h7, h8, h9, h10, h11, h12, h13, h14, h15⟩ := h
  obtain ⟨v0, e0⟩ := Option.isSome_iff_exists.1 h0
  obtain ⟨v1, e1⟩ := Option.isSome_iff_exists.1 h1
  obtain ⟨v2, e2⟩ := Option.isSome_iff_exists.1 h2
  obtain ⟨v3, e3⟩ := Option.isSome_iff_exists.1 h3
  obtain ⟨v4, e4⟩ := Option.isSome_iff_exists.1 h4
  obtain ⟨v5, e5⟩ := Option.isSome_iff_exists.1 h5
  obtain ⟨v6, e6⟩ := Option.isSome_iff_exists.1 h6
  obtain ⟨v7, e7⟩ := Option.isSome_iff_exists.1 h7
  obtain ⟨v8, e8⟩ := Option.isSome_iff_exists.1 h8
  obtain ⟨v9, e9⟩ := Option.isSome_iff_exists.1 h9
  obtain ⟨v10, e10⟩ := Option.isSome_iff_exists.1 h10
  obtain ⟨v11, e11⟩ := Option.isSome_iff_exists.1 h11
  obtain ⟨v12, e12⟩ := Option.isSome_iff_exists.1 h12
  obtain ⟨v13, e13⟩ := Option.isSome_iff_exists.1 h13
  obtain ⟨v14, e14⟩ := Option.isSome_iff_exists.1 h14
  obtain ⟨v15, e15⟩ := Option.isSome_iff_exists.1 h15
  rw [e0, e1, e2, e3, e4, e5, e6, e7, e8, e9, e10, e11, e12, e13, e14, e15]
  refine run_loadAt_mid w b 0 53 [v0, v1, v2, v3, v4, v5, v6, v7, v8, v9, v10, v11, v12, v13, v14, v15] _ ?_ Tryz.underlying53 rfl (by kernel_rfl)
  intro j v hj
  rw [Nat.zero_add]
  rcases j with _ | j
  · simp at hj; subst hj; exact e0
  rcases j with _ | j
  · simp at hj; subst hj; exact e1
  rcases j with _ | j
  · simp at hj; subst hj; exact e2
  rcases j with _ | j
  · simp at hj; subst hj; exact e3
  rcases j with _ | j
  · simp at hj; subst hj; exact e4
  rcases j with _ | j
  · simp at hj; subst hj; exact e5
  rcases j with _ | j
  · simp at hj; subst hj; exact e6
  rcases j with _ | j
  · simp at hj; subst hj; exact e7
  rcases j with _ | j
  · simp at hj; subst hj; exact e8
  rcases j with _ | j
  · simp at hj; subst hj; exact e9
  rcases j with _ | j
  · simp at hj; subst hj; exact e10
  rcases j with _ | j
  · simp at hj; subst hj; exact e11
  rcases j with _ | j
  · simp at hj; subst hj; exact e12
  rcases j with _ | j
  · simp at hj; subst hj; exact e13
  rcases j with _ | j
  · simp at hj; subst hj; exact e14
  rcases j with _ | j
  · simp at hj; subst hj; exact e15
  · simp at hj
theorem loadM_exec (ρ : Operand → Value) (d : Option Tmp) (x : Operand) (t : TypeId) (p : String) (af : Array Edge) (g : Option (Nat × Bool)) (w : World) : (execOp ρ { dst := d, op := .load 53 x, type := t, pos := p, after := af, guard := g }).run Tryz.prog w = ((loadM (ρ x)).run Tryz.prog w).andThen fun v w' => .ok (.value v) w' := by
  unfold execOp loadM
  simp only [Sem.run_bind, Sem.run_pure]
attribute [local go_sem ↓] loadM_exec loadM_run
theorem rreadM_any (v : Value) (zs : List Int) (w : World) (hv : Has w v zs) (hB : IsB zs) (hl : zs.length ≤ 1073741824) :
    Calls Tryz.prog 16 #[v] w fun e w' => ∃ X : MsgV, e = .returned (.tuple #[.agg X.arr, .int .i64 (whole10 goodM10 noM10 (pmsg10 (zs, false))).2]) ∧ X.m = (whole10 goodM10 noM10 (pmsg10 (zs, false))).1 ∧ FitsM w' X ∧ Below w.heap.size w w' := by
  by_cases h5 : (int9 (zs, false)).1 = 5
  · exact rreadM_app v zs w hv hB hl h5
  by_cases h7 : (int9 (zs, false)).1 = 7
  · exact rreadM_snap v zs w hv hB hl h7
  exact rreadM_else v zs w hv hB hl ⟨h5, h7⟩
theorem keepV {w1 wA wB : World} {b d e : Nat} {xb0 xb1 xb2 xb3 xb4 xb5 xb6 xb7 xb8 xb9 xb10 xb11 xb12 xb13 xb14 xb15 xd0 xd1 xd2 xd3 xd4 xd5 xd6 xd7 xd8 xd9 xd10 xd11 xd12 xd13 xd14 xd15 xe0 xe1 xe2 xe3 xe4 xe5 xe6 xe7 xe8 xe9 xe10 xe11 xe12 xe13 xe14 xe15 : Value} (hlb : b < w1.heap.size) (hld : d < w1.heap.size) (hle : e < w1.heap.size) (h : wA.cell? ⟨b, 0, none⟩ = some xb0 ∧ wA.cell? ⟨b, 1, none⟩ = some xb1 ∧ wA.cell? ⟨b, 2, none⟩ = some xb2 ∧ wA.cell? ⟨b, 3, none⟩ = some xb3 ∧ wA.cell? ⟨b, 4, none⟩ = some xb4 ∧ wA.cell? ⟨b, 5, none⟩ = some xb5 ∧ wA.cell? ⟨b, 6, none⟩ = some xb6 ∧ wA.cell? ⟨b, 7, none⟩ = some xb7 ∧ wA.cell? ⟨b, 8, none⟩ = some xb8 ∧ wA.cell? ⟨b, 9, none⟩ = some xb9 ∧ wA.cell? ⟨b, 10, none⟩ = some xb10 ∧ wA.cell? ⟨b, 11, none⟩ = some xb11 ∧ wA.cell? ⟨b, 12, none⟩ = some xb12 ∧ wA.cell? ⟨b, 13, none⟩ = some xb13 ∧ wA.cell? ⟨b, 14, none⟩ = some xb14 ∧ wA.cell? ⟨b, 15, none⟩ = some xb15 ∧ wA.cell? ⟨d, 0, none⟩ = some xd0 ∧ wA.cell? ⟨d, 1, none⟩ = some xd1 ∧ wA.cell? ⟨d, 2, none⟩ = some xd2 ∧ wA.cell? ⟨d, 3, none⟩ = some xd3 ∧ wA.cell? ⟨d, 4, none⟩ = some xd4 ∧ wA.cell? ⟨d, 5, none⟩ = some xd5 ∧ wA.cell? ⟨d, 6, none⟩ = some xd6 ∧ wA.cell? ⟨d, 7, none⟩ = some xd7 ∧ wA.cell? ⟨d, 8, none⟩ = some xd8 ∧ wA.cell? ⟨d, 9, none⟩ = some xd9 ∧ wA.cell? ⟨d, 10, none⟩ = some xd10 ∧ wA.cell? ⟨d, 11, none⟩ = some xd11 ∧ wA.cell? ⟨d, 12, none⟩ = some xd12 ∧ wA.cell? ⟨d, 13, none⟩ = some xd13 ∧ wA.cell? ⟨d, 14, none⟩ = some xd14 ∧ wA.cell? ⟨d, 15, none⟩ = some xd15 ∧ wA.cell? ⟨e, 0, none⟩ = some xe0 ∧ wA.cell? ⟨e, 1, none⟩ = some xe1 ∧ wA.cell? ⟨e, 2, none⟩ = some xe2 ∧ wA.cell? ⟨e, 3, none⟩ = some xe3 ∧ wA.cell? ⟨e, 4, none⟩ = some xe4 ∧ wA.cell? ⟨e, 5, none⟩ = some xe5 ∧ wA.cell? ⟨e, 6, none⟩ = some xe6 ∧ wA.cell? ⟨e, 7, none⟩ = some xe7 ∧ wA.cell? ⟨e, 8, none⟩ = some xe8 ∧ wA.cell? ⟨e, 9, none⟩ = some xe9 ∧ wA.cell? ⟨e, 10, none⟩ = some xe10 ∧ wA.cell? ⟨e, 11, none⟩ = some xe11 ∧ wA.cell? ⟨e, 12, none⟩ = some xe12 ∧ wA.cell? ⟨e, 13, none⟩ = some xe13 ∧ wA.cell? ⟨e, 14, none⟩ = some xe14 ∧ wA.cell? ⟨e, 15, none⟩ = some xe15 ∧ Below w1.heap.size w1 wA) (hb : Below wA.heap.size wA wB) :
    wB.cell? ⟨b, 0, none⟩ = some xb0 ∧ wB.cell? ⟨b, 1, none⟩ = some xb1 ∧ wB.cell? ⟨b, 2, none⟩ = some xb2 ∧ wB.cell? ⟨b, 3, none⟩ = some xb3 ∧ wB.cell? ⟨b, 4, none⟩ = some xb4 ∧ wB.cell? ⟨b, 5, none⟩ = some xb5 ∧ wB.cell? ⟨b, 6, none⟩ = some xb6 ∧ wB.cell? ⟨b, 7, none⟩ = some xb7 ∧ wB.cell? ⟨b, 8, none⟩ = some xb8 ∧ wB.cell? ⟨b, 9, none⟩ = some xb9 ∧ wB.cell? ⟨b, 10, none⟩ = some xb10 ∧ wB.cell? ⟨b, 11, none⟩ = some xb11 ∧ wB.cell? ⟨b, 12, none⟩ = some xb12 ∧ wB.cell? ⟨b, 13, none⟩ = some xb13 ∧ wB.cell? ⟨b, 14, none⟩ = some xb14 ∧ wB.cell? ⟨b, 15, none⟩ = some xb15 ∧ wB.cell? ⟨d, 0, none⟩ = some xd0 ∧ wB.cell? ⟨d, 1, none⟩ = some xd1 ∧ wB.cell? ⟨d, 2, none⟩ = some xd2 ∧ wB.cell? ⟨d, 3, none⟩ = some xd3 ∧ wB.cell? ⟨d, 4, none⟩ = some xd4 ∧ wB.cell? ⟨d, 5, none⟩ = some xd5 ∧ wB.cell? ⟨d, 6, none⟩ = some xd6 ∧ wB.cell? ⟨d, 7, none⟩ = some xd7 ∧ wB.cell? ⟨d, 8, none⟩ = some xd8 ∧ wB.cell? ⟨d, 9, none⟩ = some xd9 ∧ wB.cell? ⟨d, 10, none⟩ = some xd10 ∧ wB.cell? ⟨d, 11, none⟩ = some xd11 ∧ wB.cell? ⟨d, 12, none⟩ = some xd12 ∧ wB.cell? ⟨d, 13, none⟩ = some xd13 ∧ wB.cell? ⟨d, 14, none⟩ = some xd14 ∧ wB.cell? ⟨d, 15, none⟩ = some xd15 ∧ wB.cell? ⟨e, 0, none⟩ = some xe0 ∧ wB.cell? ⟨e, 1, none⟩ = some xe1 ∧ wB.cell? ⟨e, 2, none⟩ = some xe2 ∧ wB.cell? ⟨e, 3, none⟩ = some xe3 ∧ wB.cell? ⟨e, 4, none⟩ = some xe4 ∧ wB.cell? ⟨e, 5, none⟩ = some xe5 ∧ wB.cell? ⟨e, 6, none⟩ = some xe6 ∧ wB.cell? ⟨e, 7, none⟩ = some xe7 ∧ wB.cell? ⟨e, 8, none⟩ = some xe8 ∧ wB.cell? ⟨e, 9, none⟩ = some xe9 ∧ wB.cell? ⟨e, 10, none⟩ = some xe10 ∧ wB.cell? ⟨e, 11, none⟩ = some xe11 ∧ wB.cell? ⟨e, 12, none⟩ = some xe12 ∧ wB.cell? ⟨e, 13, none⟩ = some xe13 ∧ wB.cell? ⟨e, 14, none⟩ = some xe14 ∧ wB.cell? ⟨e, 15, none⟩ = some xe15 ∧ Below w1.heap.size w1 wB := by
  obtain ⟨h0, h1, h2, h3, h4, h5, h6, h7, h8, h9, h10, h11, h12, h13, h14, h15, h16, h17, h18, h19, h20, h21, h22, h23, h24, h25, h26, h27, h28, h29, h30, h31, h32, h33, h34, h35, h36, h37, h38, h39, h40, h41, h42, h43, h44, h45, h46, h47, hz⟩ := h
  have hs := hz.size
  exact ⟨(hb.cell (p := ⟨b, 0, none⟩) (by exact Nat.lt_of_lt_of_le hlb hs)).trans h0, (hb.cell (p := ⟨b, 1, none⟩) (by exact Nat.lt_of_lt_of_le hlb hs)).trans h1, (hb.cell (p := ⟨b, 2, none⟩) (by exact Nat.lt_of_lt_of_le hlb hs)).trans h2, (hb.cell (p := ⟨b, 3, none⟩) (by exact Nat.lt_of_lt_of_le hlb hs)).trans h3, (hb.cell (p := ⟨b, 4, none⟩) (by exact Nat.lt_of_lt_of_le hlb hs)).trans h4, (hb.cell (p := ⟨b, 5, none⟩) (by exact Nat.lt_of_lt_of_le hlb hs)).trans h5, (hb.cell (p := ⟨b, 6, none⟩) (by exact Nat.lt_of_lt_of_le hlb hs)).trans h6, (hb.cell (p := ⟨b, 7, none⟩) (by exact Nat.lt_of_lt_of_le hlb hs)).trans h7, (hb.cell (p := ⟨b, 8, none⟩) (by exact Nat.lt_of_lt_of_le hlb hs)).trans h8, (hb.cell (p := ⟨b, 9, none⟩) (by exact Nat.lt_of_lt_of_le hlb hs)).trans h9, (hb.cell (p := ⟨b, 10, none⟩) (by exact Nat.lt_of_lt_of_le hlb hs)).trans h10, (hb.cell (p := ⟨b, 11, none⟩) (by exact Nat.lt_of_lt_of_le hlb hs)).trans h11, (hb.cell (p := ⟨b, 12, none⟩) (by exact Nat.lt_of_lt_of_le hlb hs)).trans h12, (hb.cell (p := ⟨b, 13, none⟩) (by exact Nat.lt_of_lt_of_le hlb hs)).trans h13, (hb.cell (p := ⟨b, 14, none⟩) (by exact Nat.lt_of_lt_of_le hlb hs)).trans h14, (hb.cell (p := ⟨b, 15, none⟩) (by exact Nat.lt_of_lt_of_le hlb hs)).trans h15, (hb.cell (p := ⟨d, 0, none⟩) (by exact Nat.lt_of_lt_of_le hld hs)).trans h16, (hb.cell (p := ⟨d, 1, none⟩) (by exact Nat.lt_of_lt_of_le hld hs)).trans h17, (hb.cell (p := ⟨d, 2, none⟩) (by exact Nat.lt_of_lt_of_le hld hs)).trans h18, (hb.cell (p := ⟨d, 3, none⟩) (by exact Nat.lt_of_lt_of_le hld hs)).trans h19, (hb.cell (p := ⟨d, 4, none⟩) (by exact Nat.lt_of_lt_of_le hld hs)).trans h20, (hb.cell (p := ⟨d, 5, none⟩) (by exact Nat.lt_of_lt_of_le hld hs)).trans h21, (hb.cell (p := ⟨d, 6, none⟩) (by exact Nat.lt_of_lt_of_le hld hs)).trans h22, (hb.cell (p := ⟨d, 7, none⟩) (by exact Nat.lt_of_lt_of_le hld hs)).trans h23, (hb.cell (p := ⟨d, 8, none⟩) (by exact Nat.lt_of_lt_of_le hld hs)).trans h24, (hb.cell (p := ⟨d, 9, none⟩) (by exact Nat.lt_of_lt_of_le hld hs)).trans h25, (hb.cell (p := ⟨d, 10, none⟩) (by exact Nat.lt_of_lt_of_le hld hs)).trans h26, (hb.cell (p := ⟨d, 11, none⟩) (by exact Nat.lt_of_lt_of_le hld hs)).trans h27, (hb.cell (p := ⟨d, 12, none⟩) (by exact Nat.lt_of_lt_of_le hld hs)).trans h28, (hb.cell (p := ⟨d, 13, none⟩) (by exact Nat.lt_of_lt_of_le hld hs)).trans h29, (hb.cell (p := ⟨d, 14, none⟩) (by exact Nat.lt_of_lt_of_le hld hs)).trans h30, (hb.cell (p := ⟨d, 15, none⟩) (by exact Nat.lt_of_lt_of_le hld hs)).trans h31, (hb.cell (p := ⟨e, 0, none⟩) (by exact Nat.lt_of_lt_of_le hle hs)).trans h32, (hb.cell (p := ⟨e, 1, none⟩) (by exact Nat.lt_of_lt_of_le hle hs)).trans h33, (hb.cell (p := ⟨e, 2, none⟩) (by exact Nat.lt_of_lt_of_le hle hs)).trans h34, (hb.cell (p := ⟨e, 3, none⟩) (by exact Nat.lt_of_lt_of_le hle hs)).trans h35, (hb.cell (p := ⟨e, 4, none⟩) (by exact Nat.lt_of_lt_of_le hle hs)).trans h36, (hb.cell (p := ⟨e, 5, none⟩) (by exact Nat.lt_of_lt_of_le hle hs)).trans h37, (hb.cell (p := ⟨e, 6, none⟩) (by exact Nat.lt_of_lt_of_le hle hs)).trans h38, (hb.cell (p := ⟨e, 7, none⟩) (by exact Nat.lt_of_lt_of_le hle hs)).trans h39, (hb.cell (p := ⟨e, 8, none⟩) (by exact Nat.lt_of_lt_of_le hle hs)).trans h40, (hb.cell (p := ⟨e, 9, none⟩) (by exact Nat.lt_of_lt_of_le hle hs)).trans h41, (hb.cell (p := ⟨e, 10, none⟩) (by exact Nat.lt_of_lt_of_le hle hs)).trans h42, (hb.cell (p := ⟨e, 11, none⟩) (by exact Nat.lt_of_lt_of_le hle hs)).trans h43, (hb.cell (p := ⟨e, 12, none⟩) (by exact Nat.lt_of_lt_of_le hle hs)).trans h44, (hb.cell (p := ⟨e, 13, none⟩) (by exact Nat.lt_of_lt_of_le hle hs)).trans h45, (hb.cell (p := ⟨e, 14, none⟩) (by exact Nat.lt_of_lt_of_le hle hs)).trans h46, (hb.cell (p := ⟨e, 15, none⟩) (by exact Nat.lt_of_lt_of_le hle hs)).trans h47, hz.trans (hb.mono hs)⟩
theorem keepV0 {w1 : World} {b d e : Nat} {xb0 xb1 xb2 xb3 xb4 xb5 xb6 xb7 xb8 xb9 xb10 xb11 xb12 xb13 xb14 xb15 xd0 xd1 xd2 xd3 xd4 xd5 xd6 xd7 xd8 xd9 xd10 xd11 xd12 xd13 xd14 xd15 xe0 xe1 xe2 xe3 xe4 xe5 xe6 xe7 xe8 xe9 xe10 xe11 xe12 xe13 xe14 xe15 : Value} (h0 : w1.cell? ⟨b, 0, none⟩ = some xb0) (h1 : w1.cell? ⟨b, 1, none⟩ = some xb1) (h2 : w1.cell? ⟨b, 2, none⟩ = some xb2) (h3 : w1.cell? ⟨b, 3, none⟩ = some xb3) (h4 : w1.cell? ⟨b, 4, none⟩ = some xb4) (h5 : w1.cell? ⟨b, 5, none⟩ = some xb5) (h6 : w1.cell? ⟨b, 6, none⟩ = some xb6) (h7 : w1.cell? ⟨b, 7, none⟩ = some xb7) (h8 : w1.cell? ⟨b, 8, none⟩ = some xb8) (h9 : w1.cell? ⟨b, 9, none⟩ = some xb9) (h10 : w1.cell? ⟨b, 10, none⟩ = some xb10) (h11 : w1.cell? ⟨b, 11, none⟩ = some xb11) (h12 : w1.cell? ⟨b, 12, none⟩ = some xb12) (h13 : w1.cell? ⟨b, 13, none⟩ = some xb13) (h14 : w1.cell? ⟨b, 14, none⟩ = some xb14) (h15 : w1.cell? ⟨b, 15, none⟩ = some xb15) (h16 : w1.cell? ⟨d, 0, none⟩ = some xd0) (h17 : w1.cell? ⟨d, 1, none⟩ = some xd1) (h18 : w1.cell? ⟨d, 2, none⟩ = some xd2) (h19 : w1.cell? ⟨d, 3, none⟩ = some xd3) (h20 : w1.cell? ⟨d, 4, none⟩ = some xd4) (h21 : w1.cell? ⟨d, 5, none⟩ = some xd5) (h22 : w1.cell? ⟨d, 6, none⟩ = some xd6) (h23 : w1.cell? ⟨d, 7, none⟩ = some xd7) (h24 : w1.cell? ⟨d, 8, none⟩ = some xd8) (h25 : w1.cell? ⟨d, 9, none⟩ = some xd9) (h26 : w1.cell? ⟨d, 10, none⟩ = some xd10) (h27 : w1.cell? ⟨d, 11, none⟩ = some xd11) (h28 : w1.cell? ⟨d, 12, none⟩ = some xd12) (h29 : w1.cell? ⟨d, 13, none⟩ = some xd13) (h30 : w1.cell? ⟨d, 14, none⟩ = some xd14) (h31 : w1.cell? ⟨d, 15, none⟩ = some xd15) (h32 : w1.cell? ⟨e, 0, none⟩ = some xe0) (h33 : w1.cell? ⟨e, 1, none⟩ = some xe1) (h34 : w1.cell? ⟨e, 2, none⟩ = some xe2) (h35 : w1.cell? ⟨e, 3, none⟩ = some xe3) (h36 : w1.cell? ⟨e, 4, none⟩ = some xe4) (h37 : w1.cell? ⟨e, 5, none⟩ = some xe5) (h38 : w1.cell? ⟨e, 6, none⟩ = some xe6) (h39 : w1.cell? ⟨e, 7, none⟩ = some xe7) (h40 : w1.cell? ⟨e, 8, none⟩ = some xe8) (h41 : w1.cell? ⟨e, 9, none⟩ = some xe9) (h42 : w1.cell? ⟨e, 10, none⟩ = some xe10) (h43 : w1.cell? ⟨e, 11, none⟩ = some xe11) (h44 : w1.cell? ⟨e, 12, none⟩ = some xe12) (h45 : w1.cell? ⟨e, 13, none⟩ = some xe13) (h46 : w1.cell? ⟨e, 14, none⟩ = some xe14) (h47 : w1.cell? ⟨e, 15, none⟩ = some xe15) : w1.drew.cell? ⟨b, 0, none⟩ = some xb0 ∧ w1.drew.cell? ⟨b, 1, none⟩ = some xb1 ∧ w1.drew.cell? ⟨b, 2, none⟩ = some xb2 ∧ w1.drew.cell? ⟨b, 3, none⟩ = some xb3 ∧ w1.drew.cell? ⟨b, 4, none⟩ = some xb4 ∧ w1.drew.cell? ⟨b, 5, none⟩ = some xb5 ∧ w1.drew.cell? ⟨b, 6, none⟩ = some xb6 ∧ w1.drew.cell? ⟨b, 7, none⟩ = some xb7 ∧ w1.drew.cell? ⟨b, 8, none⟩ = some xb8 ∧ w1.drew.cell? ⟨b, 9, none⟩ = some xb9 ∧ w1.drew.cell? ⟨b, 10, none⟩ = some xb10 ∧ w1.drew.cell? ⟨b, 11, none⟩ = some xb11 ∧ w1.drew.cell? ⟨b, 12, none⟩ = some xb12 ∧ w1.drew.cell? ⟨b, 13, none⟩ = some xb13 ∧ w1.drew.cell? ⟨b, 14, none⟩ = some xb14 ∧ w1.drew.cell? ⟨b, 15, none⟩ = some xb15 ∧ w1.drew.cell? ⟨d, 0, none⟩ = some xd0 ∧ w1.drew.cell? ⟨d, 1, none⟩ = some xd1 ∧ w1.drew.cell? ⟨d, 2, none⟩ = some xd2 ∧ w1.drew.cell? ⟨d, 3, none⟩ = some xd3 ∧ w1.drew.cell? ⟨d, 4, none⟩ = some xd4 ∧ w1.drew.cell? ⟨d, 5, none⟩ = some xd5 ∧ w1.drew.cell? ⟨d, 6, none⟩ = some xd6 ∧ w1.drew.cell? ⟨d, 7, none⟩ = some xd7 ∧ w1.drew.cell? ⟨d, 8, none⟩ = some xd8 ∧ w1.drew.cell? ⟨d, 9, none⟩ = some xd9 ∧ w1.drew.cell? ⟨d, 10, none⟩ = some xd10 ∧ w1.drew.cell? ⟨d, 11, none⟩ = some xd11 ∧ w1.drew.cell? ⟨d, 12, none⟩ = some xd12 ∧ w1.drew.cell? ⟨d, 13, none⟩ = some xd13 ∧ w1.drew.cell? ⟨d, 14, none⟩ = some xd14 ∧ w1.drew.cell? ⟨d, 15, none⟩ = some xd15 ∧ w1.drew.cell? ⟨e, 0, none⟩ = some xe0 ∧ w1.drew.cell? ⟨e, 1, none⟩ = some xe1 ∧ w1.drew.cell? ⟨e, 2, none⟩ = some xe2 ∧ w1.drew.cell? ⟨e, 3, none⟩ = some xe3 ∧ w1.drew.cell? ⟨e, 4, none⟩ = some xe4 ∧ w1.drew.cell? ⟨e, 5, none⟩ = some xe5 ∧ w1.drew.cell? ⟨e, 6, none⟩ = some xe6 ∧ w1.drew.cell? ⟨e, 7, none⟩ = some xe7 ∧ w1.drew.cell? ⟨e, 8, none⟩ = some xe8 ∧ w1.drew.cell? ⟨e, 9, none⟩ = some xe9 ∧ w1.drew.cell? ⟨e, 10, none⟩ = some xe10 ∧ w1.drew.cell? ⟨e, 11, none⟩ = some xe11 ∧ w1.drew.cell? ⟨e, 12, none⟩ = some xe12 ∧ w1.drew.cell? ⟨e, 13, none⟩ = some xe13 ∧ w1.drew.cell? ⟨e, 14, none⟩ = some xe14 ∧ w1.drew.cell? ⟨e, 15, none⟩ = some xe15 ∧ Below w1.heap.size w1 w1.drew :=
  ⟨h0, h1, h2, h3, h4, h5, h6, h7, h8, h9, h10, h11, h12, h13, h14, h15, h16, h17, h18, h19, h20, h21, h22, h23, h24, h25, h26, h27, h28, h29, h30, h31, h32, h33, h34, h35, h36, h37, h38, h39, h40, h41, h42, h43, h44, h45, h46, h47, ⟨rfl, rfl, rfl, Nat.le_refl _, fun _ _ => rfl⟩⟩
theorem keepVB {w1 wA : World} {b d e : Nat} {xb0 xb1 xb2 xb3 xb4 xb5 xb6 xb7 xb8 xb9 xb10 xb11 xb12 xb13 xb14 xb15 xd0 xd1 xd2 xd3 xd4 xd5 xd6 xd7 xd8 xd9 xd10 xd11 xd12 xd13 xd14 xd15 xe0 xe1 xe2 xe3 xe4 xe5 xe6 xe7 xe8 xe9 xe10 xe11 xe12 xe13 xe14 xe15 : Value} (h : wA.cell? ⟨b, 0, none⟩ = some xb0 ∧ wA.cell? ⟨b, 1, none⟩ = some xb1 ∧ wA.cell? ⟨b, 2, none⟩ = some xb2 ∧ wA.cell? ⟨b, 3, none⟩ = some xb3 ∧ wA.cell? ⟨b, 4, none⟩ = some xb4 ∧ wA.cell? ⟨b, 5, none⟩ = some xb5 ∧ wA.cell? ⟨b, 6, none⟩ = some xb6 ∧ wA.cell? ⟨b, 7, none⟩ = some xb7 ∧ wA.cell? ⟨b, 8, none⟩ = some xb8 ∧ wA.cell? ⟨b, 9, none⟩ = some xb9 ∧ wA.cell? ⟨b, 10, none⟩ = some xb10 ∧ wA.cell? ⟨b, 11, none⟩ = some xb11 ∧ wA.cell? ⟨b, 12, none⟩ = some xb12 ∧ wA.cell? ⟨b, 13, none⟩ = some xb13 ∧ wA.cell? ⟨b, 14, none⟩ = some xb14 ∧ wA.cell? ⟨b, 15, none⟩ = some xb15 ∧ wA.cell? ⟨d, 0, none⟩ = some xd0 ∧ wA.cell? ⟨d, 1, none⟩ = some xd1 ∧ wA.cell? ⟨d, 2, none⟩ = some xd2 ∧ wA.cell? ⟨d, 3, none⟩ = some xd3 ∧ wA.cell? ⟨d, 4, none⟩ = some xd4 ∧ wA.cell? ⟨d, 5, none⟩ = some xd5 ∧ wA.cell? ⟨d, 6, none⟩ = some xd6 ∧ wA.cell? ⟨d, 7, none⟩ = some xd7 ∧ wA.cell? ⟨d, 8, none⟩ = some xd8 ∧ wA.cell? ⟨d, 9, none⟩ = some xd9 ∧ wA.cell? ⟨d, 10, none⟩ = some xd10 ∧ wA.cell? ⟨d, 11, none⟩ = some xd11 ∧ wA.cell? ⟨d, 12, none⟩ = some xd12 ∧ wA.cell? ⟨d, 13, none⟩ = some xd13 ∧ wA.cell? ⟨d, 14, none⟩ = some xd14 ∧ wA.cell? ⟨d, 15, none⟩ = some xd15 ∧ wA.cell? ⟨e, 0, none⟩ = some xe0 ∧ wA.cell? ⟨e, 1, none⟩ = some xe1 ∧ wA.cell? ⟨e, 2, none⟩ = some xe2 ∧ wA.cell? ⟨e, 3, none⟩ = some xe3 ∧ wA.cell? ⟨e, 4, none⟩ = some xe4 ∧ wA.cell? ⟨e, 5, none⟩ = some xe5 ∧ wA.cell? ⟨e, 6, none⟩ = some xe6 ∧ wA.cell? ⟨e, 7, none⟩ = some xe7 ∧ wA.cell? ⟨e, 8, none⟩ = some xe8 ∧ wA.cell? ⟨e, 9, none⟩ = some xe9 ∧ wA.cell? ⟨e, 10, none⟩ = some xe10 ∧ wA.cell? ⟨e, 11, none⟩ = some xe11 ∧ wA.cell? ⟨e, 12, none⟩ = some xe12 ∧ wA.cell? ⟨e, 13, none⟩ = some xe13 ∧ wA.cell? ⟨e, 14, none⟩ = some xe14 ∧ wA.cell? ⟨e, 15, none⟩ = some xe15 ∧ Below w1.heap.size w1 wA) : Below w1.heap.size w1 wA := h.2.2.2.2.2.2.2.2.2.2.2.2.2.2.2.2.2.2.2.2.2.2.2.2.2.2.2.2.2.2.2.2.2.2.2.2.2.2.2.2.2.2.2.2.2.2.2.2

set_option maxRecDepth 100000 in
set_option maxHeartbeats 8000000 in
theorem msgs10_walk (x : MsgV) (a0 : Option Addr) (len0 cap0 : Nat) (zs : List Int) (e0 : zs.length = len0) (w : World) (hx : FitsM w x) (hv : Has w (.slice a0 len0 cap0) zs) (hB : IsB zs) (hl : len0 ≤ 140737488351232) :
    Calls Tryz.prog 4 #[.agg x.arr, .slice a0 len0 cap0] w fun e w' => e = .returned (.bool true) ∧ Below w.heap.size w w' := by
  have k9 := fun w => lives10_any w
  have hb0 : Below w.heap.size w (w.alloc (.cells x.arr 53)) := (Below.refl _ _).alloc (Nat.le_refl _) _
  have hM0 : MsgAt (w.alloc (.cells x.arr 53)) w.heap.size x := heap_alloc_new w _
  have hz0 := hb0.size
  have kf := few10_any x _ (hx.below hb0)
  have HL : Hid (FewM x → LowM x) := FewM.low
  have HIs : Hid (IsB (msgB x.m)) := msgB_isB _ hx.sn.b
  have m1 : Hid (∀ W, Below w.heap.size w W → Calls Tryz.prog 17 #[.agg x.arr] W fun e w' => e = .returned (.bool (goodM10 x.m)) ∧ Below W.heap.size W w') := fun W h => goodMsg_any x W (hx.below h)
  have m2 : Hid (∀ W, Below w.heap.size w W → Calls Tryz.prog 18 #[.agg x.arr] W fun e w' => e = .returned (.bool (goodM10 x.m)) ∧ Below W.heap.size W w') := fun W h => rgoodMsg_any x W (hx.below h)
  have m3 : Hid (LowM x → ∀ W, Below w.heap.size w W → Calls Tryz.prog 20 #[.agg x.arr] W fun e w' => ∃ v, e = .returned v ∧ Owns w' W.heap.size 5 v (msgB x.m) ∧ Below W.heap.size W w') := fun hl W h => bytesM_any W x (hx.below h) hl
  have m4 : Hid (LowM x → ∀ W, Below w.heap.size w W → Calls Tryz.prog 21 #[.agg x.arr] W fun e w' => ∃ v, e = .returned v ∧ Has w' v (msgB x.m) ∧ Below W.heap.size W w') := fun hl W h => rbytesM_any W x (hx.below h) hl
  have HV : Hid (∀ W, Below w.heap.size w W → Has W (.slice a0 len0 cap0) zs) := fun W h => hv.below h (Nat.le_refl _)
  have k1 : Hid (¬ 5000 < len0 → ∀ W, Below w.heap.size w W → Calls Tryz.prog 15 #[.slice a0 len0 cap0] W fun e w' => ∃ X : MsgV, e = .returned (.tuple #[.agg X.arr, .int .i64 (whole10 goodM10 noM10 (pmsg10 (zs, false))).2]) ∧ X.m = (whole10 goodM10 noM10 (pmsg10 (zs, false))).1 ∧ FitsM w' X ∧ Below W.heap.size W w') := fun hq W h => readM_any _ zs W (HV.out W h) hB (by omega)
  have k2 : Hid (¬ 5000 < len0 → ∀ W, Below w.heap.size w W → Calls Tryz.prog 16 #[.slice a0 len0 cap0] W fun e w' => ∃ X : MsgV, e = .returned (.tuple #[.agg X.arr, .int .i64 (whole10 goodM10 noM10 (pmsg10 (zs, false))).2]) ∧ X.m = (whole10 goodM10 noM10 (pmsg10 (zs, false))).1 ∧ FitsM w' X ∧ Below W.heap.size W w') := fun hq W h => rreadM_any _ zs W (HV.out W h) hB (by omega)
  clear HV hv hB e0 hx
  generalize whole10 goodM10 noM10 (pmsg10 (zs, false)) = RR at *
  obtain ⟨rm, re⟩ := RR
  dsimp only at k1 k2
  generalize goodM10 x.m = r1 at *
  generalize msgB x.m = bs at *
  generalize LowM x = FP at *
  generalize FewM x = FM at *
  obtain ⟨mk, mfr, mtoo, mt, mi, mlt, mcm, mro, mrej, mhint, ⟨ma, mb, me⟩, mes, ⟨msi, mst, ⟨⟨mp, mn, mc⟩, ⟨mq, mm, md⟩, mf⟩, ⟨ma', mb', me'⟩, mdd⟩⟩ := x
  unfold MsgV.arr at *
  dsimp only at *
  go_enter Tryz.func4, Tryz.ntmps4
  go_wp2_with fail
  refine kf.mono ?_
  rintro _ w1 ⟨r, rfl, hr, hb1⟩
  have hM1 : MsgAt w1 w.heap.size ⟨mk, mfr, mtoo, mt, mi, mlt, mcm, mro, mrej, mhint, ⟨ma, mb, me⟩, mes, ⟨msi, mst, ⟨⟨mp, mn, mc⟩, ⟨mq, mm, md⟩, mf⟩, ⟨ma', mb', me'⟩, mdd⟩⟩ := box_below hM0 hb1
  have hB1 := hb0.trans (hb1.mono hz0)
  have HR0 : Hid (r = true → FM) := hr
  clear kf hM0 hb1 hr hb0
  cases r with
  | false =>
    go_wp2_with fail
    refine (k9 _).mono ?_
    rintro _ w3 ⟨rfl, hb3⟩
    have hB3 := hB1.trans (hb3.mono hB1.size)
    go_wp2
    go_ret
    exact ⟨rfl, hB3⟩
  | true =>
  by_cases hq : 5000 < len0
  · have hq' : (5000 : Int) < (len0 : Int) := by omega
    go_wp2_with fail
    refine (k9 _).mono ?_
    rintro _ w3 ⟨rfl, hb3⟩
    have hB3 := hB1.trans (hb3.mono hB1.size)
    go_wp2
    go_ret
    exact ⟨rfl, hB3⟩
  have hq' : ¬ (5000 : Int) < (len0 : Int) := by omega
  have hlow := HL.out (HR0.out rfl)
  have n1 := k1.out hq w1 hB1
  have K2 : Hid _ := k2.out hq
  have M3 : Hid _ := m3.out hlow
  have M4 : Hid _ := m4.out hlow
  clear k1 k2 m3 m4 HL HR0 hlow
  as_aux_lemma =>
    go_wp2_with fail
    refine n1.mono ?_
    rintro _ w2 ⟨X, rfl, hX, fX, hb2⟩
    have HX : Hid (X.m = rm) := hX
    have hM2 : MsgAt w2 w.heap.size ⟨mk, mfr, mtoo, mt, mi, mlt, mcm, mro, mrej, mhint, ⟨ma, mb, me⟩, mes, ⟨msi, mst, ⟨⟨mp, mn, mc⟩, ⟨mq, mm, md⟩, mf⟩, ⟨ma', mb', me'⟩, mdd⟩⟩ := box_below hM1 hb2
    have hB2 := hB1.trans (hb2.mono hB1.size)
    have hba : Below w2.heap.size w2 (w2.alloc (.cells X.arr 53)) := (Below.refl _ _).alloc (Nat.le_refl _) _
    have hbX : MsgAt (w2.alloc (.cells X.arr 53)) w2.heap.size X := heap_alloc_new w2 _
    have hM3 := box_below hM2 hba
    have fX3 := fX.below hba
    have hB3 := hB2.trans (hba.mono hB2.size)
    have n2 := K2.out _ hB3
    have hlM2 := box_lt hM2
    have FX3 : Hid (FitsM (w2.alloc (.cells X.arr 53)) X) := fX3
    clear n1 hX fX hb2 hM1 hB1 hM2 hB2 hba K2 fX3
    obtain ⟨xk, xfr, xtoo, xt, xi, xlt, xcm, xro, xrej, xhint, ⟨xa, xb, xe⟩, xes, ⟨xsi, xst, ⟨⟨xp, xn, xc⟩, ⟨xq, xm, xd⟩, xf⟩, ⟨xa', xb', xe'⟩, xdd⟩⟩ := X
    unfold MsgV.arr at *
    dsimp only at *
    as_aux_lemma =>
      go_upto_region 4 with fail
      generalize w2.alloc (.cells #[.int .i64 xk, .int .i64 xfr, .int .i64 xtoo, .int .i64 xt, .int .i64 xi, .int .i64 xlt, .int .i64 xcm, .int .i64 xro, .bool xrej, .int .i64 xhint, .slice xa xb xe, .int .i64 xsi, .int .i64 xst, .slice xp xn xc, .slice xq xm xd, .slice xa' xb' xe'] 53) = w3 at *
      replace hbX : MsgAt w3 w2.heap.size ⟨xk, xfr, xtoo, xt, xi, xlt, xcm, xro, xrej, xhint, ⟨xa, xb, xe⟩, xes, ⟨xsi, xst, ⟨⟨xp, xn, xc⟩, ⟨xq, xm, xd⟩, xf⟩, ⟨xa', xb', xe'⟩, xdd⟩⟩ := hbX
      replace hM3 : MsgAt w3 w.heap.size ⟨mk, mfr, mtoo, mt, mi, mlt, mcm, mro, mrej, mhint, ⟨ma, mb, me⟩, mes, ⟨msi, mst, ⟨⟨mp, mn, mc⟩, ⟨mq, mm, md⟩, mf⟩, ⟨ma', mb', me'⟩, mdd⟩⟩ := hM3
      replace FX3 : Hid (FitsM w3 ⟨xk, xfr, xtoo, xt, xi, xlt, xcm, xro, xrej, xhint, ⟨xa, xb, xe⟩, xes, ⟨xsi, xst, ⟨⟨xp, xn, xc⟩, ⟨xq, xm, xd⟩, xf⟩, ⟨xa', xb', xe'⟩, xdd⟩⟩) := FX3
      generalize w2.heap.size = bX at *
      as_aux_lemma =>
        go_wp2_with fail
        refine n2.mono ?_
        rintro _ w4 ⟨Y, rfl, hY, fY, hb4⟩
        have HY : Hid (Y.m = rm) := hY
        have hM4 : MsgAt w4 w.heap.size ⟨mk, mfr, mtoo, mt, mi, mlt, mcm, mro, mrej, mhint, ⟨ma, mb, me⟩, mes, ⟨msi, mst, ⟨⟨mp, mn, mc⟩, ⟨mq, mm, md⟩, mf⟩, ⟨ma', mb', me'⟩, mdd⟩⟩ := box_below hM3 hb4
        have hX4 : MsgAt w4 bX ⟨xk, xfr, xtoo, xt, xi, xlt, xcm, xro, xrej, xhint, ⟨xa, xb, xe⟩, xes, ⟨xsi, xst, ⟨⟨xp, xn, xc⟩, ⟨xq, xm, xd⟩, xf⟩, ⟨xa', xb', xe'⟩, xdd⟩⟩ := box_below hbX hb4
        have fX4 := FX3.out.below hb4
        have hB4 := hB3.trans (hb4.mono hB3.size)
        have hba : Below w4.heap.size w4 (w4.alloc (.cells Y.arr 53)) := (Below.refl _ _).alloc (Nat.le_refl _) _
        have hbY : MsgAt (w4.alloc (.cells Y.arr 53)) w4.heap.size Y := heap_alloc_new w4 _
        have hM5 := box_below hM4 hba
        have hX5 := box_below hX4 hba
        have fX5 := fX4.below hba
        have fY5 := fY.below hba
        have hB5 := hB4.trans (hba.mono hB4.size)
        have m6 : Hid (∀ W, Below (w4.alloc (.cells Y.arr 53)).heap.size (w4.alloc (.cells Y.arr 53)) W → Calls Tryz.prog 22 #[.agg (MsgV.arr ⟨xk, xfr, xtoo, xt, xi, xlt, xcm, xro, xrej, xhint, ⟨xa, xb, xe⟩, xes, ⟨xsi, xst, ⟨⟨xp, xn, xc⟩, ⟨xq, xm, xd⟩, xf⟩, ⟨xa', xb', xe'⟩, xdd⟩⟩), .agg Y.arr] W fun e w' => e = .returned (.bool true) ∧ Below W.heap.size W w') := fun W h => sameMsg_eq _ Y W (fX5.below h) (fY5.below h) (HX.out.trans HY.out.symm)
        clear n2 hY fY hb4 hM3 hbX hB3 hM4 hX4 hB4 hba FX3 fX4 fX5 fY5 HX HY
        obtain ⟨yk, yfr, ytoo, yt, yi, ylt, ycm, yro, yrej, yhint, ⟨ya, yb, ye⟩, yes, ⟨ysi, yst, ⟨⟨yp, yn, yc⟩, ⟨yq, ym, yd⟩, yf⟩, ⟨ya', yb', ye'⟩, ydd⟩⟩ := Y
        unfold MsgV.arr at *
        dsimp only at *
        as_aux_lemma =>
          go_upto_region 5 with fail
          generalize w4.alloc (.cells #[.int .i64 yk, .int .i64 yfr, .int .i64 ytoo, .int .i64 yt, .int .i64 yi, .int .i64 ylt, .int .i64 ycm, .int .i64 yro, .bool yrej, .int .i64 yhint, .slice ya yb ye, .int .i64 ysi, .int .i64 yst, .slice yp yn yc, .slice yq ym yd, .slice ya' yb' ye'] 53) = w5 at *
          replace hbY : MsgAt w5 w4.heap.size ⟨yk, yfr, ytoo, yt, yi, ylt, ycm, yro, yrej, yhint, ⟨ya, yb, ye⟩, yes, ⟨ysi, yst, ⟨⟨yp, yn, yc⟩, ⟨yq, ym, yd⟩, yf⟩, ⟨ya', yb', ye'⟩, ydd⟩⟩ := hbY
          replace hM5 : MsgAt w5 w.heap.size ⟨mk, mfr, mtoo, mt, mi, mlt, mcm, mro, mrej, mhint, ⟨ma, mb, me⟩, mes, ⟨msi, mst, ⟨⟨mp, mn, mc⟩, ⟨mq, mm, md⟩, mf⟩, ⟨ma', mb', me'⟩, mdd⟩⟩ := hM5
          replace hX5 : MsgAt w5 bX ⟨xk, xfr, xtoo, xt, xi, xlt, xcm, xro, xrej, xhint, ⟨xa, xb, xe⟩, xes, ⟨xsi, xst, ⟨⟨xp, xn, xc⟩, ⟨xq, xm, xd⟩, xf⟩, ⟨xa', xb', xe'⟩, xdd⟩⟩ := hX5
          generalize w4.heap.size = bY at *
          have KX : Hid (∀ W, Below w5.heap.size w5 W → W.heap[w.heap.size]? = some (.cells #[.int .i64 mk, .int .i64 mfr, .int .i64 mtoo, .int .i64 mt, .int .i64 mi, .int .i64 mlt, .int .i64 mcm, .int .i64 mro, .bool mrej, .int .i64 mhint, .slice ma mb me, .int .i64 msi, .int .i64 mst, .slice mp mn mc, .slice mq mm md, .slice ma' mb' me'] 53 (0, 0)) ∧ W.heap[bX]? = some (.cells #[.int .i64 xk, .int .i64 xfr, .int .i64 xtoo, .int .i64 xt, .int .i64 xi, .int .i64 xlt, .int .i64 xcm, .int .i64 xro, .bool xrej, .int .i64 xhint, .slice xa xb xe, .int .i64 xsi, .int .i64 xst, .slice xp xn xc, .slice xq xm xd, .slice xa' xb' xe'] 53 (0, 0)) ∧ W.heap[bY]? = some (.cells #[.int .i64 yk, .int .i64 yfr, .int .i64 ytoo, .int .i64 yt, .int .i64 yi, .int .i64 ylt, .int .i64 ycm, .int .i64 yro, .bool yrej, .int .i64 yhint, .slice ya yb ye, .int .i64 ysi, .int .i64 yst, .slice yp yn yc, .slice yq ym yd, .slice ya' yb' ye'] 53 (0, 0))) := fun W h => ⟨box_below hM5 h, box_below hX5 h, box_below hbY h⟩
          have up : ∀ W, Below w5.heap.size w5 W → Below w.heap.size w W := fun W h => hB5.trans (h.mono hB5.size)
          have HUp : Hid _ := up
          have n1' := fun W h => m1.out W (up W h)
          have n2' := fun W h => m2.out W (up W h)
          have n3' := fun W h => M3.out W (up W h)
          have n4' := fun W h => M4.out W (up W h)
          have n6' := m6.out
          have hsm : ∀ (x y : Value) (W : World), Has W x bs → Has W y bs → Calls Tryz.prog 19 #[x, y] W fun e w' => e = .returned (.bool true) ∧ w' = W := fun x y W hx hy => by
            have := same_any x y bs bs W hx hy HIs.out HIs.out
            rwa [beq_self_eq_true] at this
          clear up HIs m1 m2 M3 M4 m6 hM5 hX5 hbY hlM2
          generalize hbm : w.heap.size = bM at *
          have Hbm : Hid (w.heap.size = bM) := hbm
          clear hbm
          obtain ⟨c0, c1, c2, c3, c4, c5, c6, c7, c8, c9, c10, c11, c12, c13, c14, c15, hc⟩ : ∃ c0 c1 c2 c3 c4 c5 c6 c7 c8 c9 c10 c11 c12 c13 c14 c15 : Value, (#[.int .i64 mk, .int .i64 mfr, .int .i64 mtoo, .int .i64 mt, .int .i64 mi, .int .i64 mlt, .int .i64 mcm, .int .i64 mro, .bool mrej, .int .i64 mhint, .slice ma mb me, .int .i64 msi, .int .i64 mst, .slice mp mn mc, .slice mq mm md, .slice ma' mb' me'] : Array Value) = #[c0, c1, c2, c3, c4, c5, c6, c7, c8, c9, c10, c11, c12, c13, c14, c15] := ⟨_, _, _, _, _, _, _, _, _, _, _, _, _, _, _, _, rfl⟩
          rw [hc] at n1' n2' n3' n4' KX ⊢
          clear hc
          obtain ⟨d0, d1, d2, d3, d4, d5, d6, d7, d8, d9, d10, d11, d12, d13, d14, d15, hc⟩ : ∃ d0 d1 d2 d3 d4 d5 d6 d7 d8 d9 d10 d11 d12 d13 d14 d15 : Value, (#[.int .i64 xk, .int .i64 xfr, .int .i64 xtoo, .int .i64 xt, .int .i64 xi, .int .i64 xlt, .int .i64 xcm, .int .i64 xro, .bool xrej, .int .i64 xhint, .slice xa xb xe, .int .i64 xsi, .int .i64 xst, .slice xp xn xc, .slice xq xm xd, .slice xa' xb' xe'] : Array Value) = #[d0, d1, d2, d3, d4, d5, d6, d7, d8, d9, d10, d11, d12, d13, d14, d15] := ⟨_, _, _, _, _, _, _, _, _, _, _, _, _, _, _, _, rfl⟩
          rw [hc] at n6' KX ⊢
          clear hc
          obtain ⟨g0, g1, g2, g3, g4, g5, g6, g7, g8, g9, g10, g11, g12, g13, g14, g15, hc⟩ : ∃ g0 g1 g2 g3 g4 g5 g6 g7 g8 g9 g10 g11 g12 g13 g14 g15 : Value, (#[.int .i64 yk, .int .i64 yfr, .int .i64 ytoo, .int .i64 yt, .int .i64 yi, .int .i64 ylt, .int .i64 ycm, .int .i64 yro, .bool yrej, .int .i64 yhint, .slice ya yb ye, .int .i64 ysi, .int .i64 yst, .slice yp yn yc, .slice yq ym yd, .slice ya' yb' ye'] : Array Value) = #[g0, g1, g2, g3, g4, g5, g6, g7, g8, g9, g10, g11, g12, g13, g14, g15] := ⟨_, _, _, _, _, _, _, _, _, _, _, _, _, _, _, _, rfl⟩
          rw [hc] at n6' KX ⊢
          clear hc
          obtain ⟨hM6, hX6, hY6⟩ := KX.out w5 (Below.refl _ _)
          have hlc := box_lt hM6
          have hld := box_lt hX6
          have hlg := box_lt hY6
          have s0 := keepV0 (show w5.cell? ⟨bM, 0, none⟩ = some c0 from box_cell hM6 0) (show w5.cell? ⟨bM, 1, none⟩ = some c1 from box_cell hM6 1) (show w5.cell? ⟨bM, 2, none⟩ = some c2 from box_cell hM6 2) (show w5.cell? ⟨bM, 3, none⟩ = some c3 from box_cell hM6 3) (show w5.cell? ⟨bM, 4, none⟩ = some c4 from box_cell hM6 4) (show w5.cell? ⟨bM, 5, none⟩ = some c5 from box_cell hM6 5) (show w5.cell? ⟨bM, 6, none⟩ = some c6 from box_cell hM6 6) (show w5.cell? ⟨bM, 7, none⟩ = some c7 from box_cell hM6 7) (show w5.cell? ⟨bM, 8, none⟩ = some c8 from box_cell hM6 8) (show w5.cell? ⟨bM, 9, none⟩ = some c9 from box_cell hM6 9) (show w5.cell? ⟨bM, 10, none⟩ = some c10 from box_cell hM6 10) (show w5.cell? ⟨bM, 11, none⟩ = some c11 from box_cell hM6 11) (show w5.cell? ⟨bM, 12, none⟩ = some c12 from box_cell hM6 12) (show w5.cell? ⟨bM, 13, none⟩ = some c13 from box_cell hM6 13) (show w5.cell? ⟨bM, 14, none⟩ = some c14 from box_cell hM6 14) (show w5.cell? ⟨bM, 15, none⟩ = some c15 from box_cell hM6 15) (show w5.cell? ⟨bX, 0, none⟩ = some d0 from box_cell hX6 0) (show w5.cell? ⟨bX, 1, none⟩ = some d1 from box_cell hX6 1) (show w5.cell? ⟨bX, 2, none⟩ = some d2 from box_cell hX6 2) (show w5.cell? ⟨bX, 3, none⟩ = some d3 from box_cell hX6 3) (show w5.cell? ⟨bX, 4, none⟩ = some d4 from box_cell hX6 4) (show w5.cell? ⟨bX, 5, none⟩ = some d5 from box_cell hX6 5) (show w5.cell? ⟨bX, 6, none⟩ = some d6 from box_cell hX6 6) (show w5.cell? ⟨bX, 7, none⟩ = some d7 from box_cell hX6 7) (show w5.cell? ⟨bX, 8, none⟩ = some d8 from box_cell hX6 8) (show w5.cell? ⟨bX, 9, none⟩ = some d9 from box_cell hX6 9) (show w5.cell? ⟨bX, 10, none⟩ = some d10 from box_cell hX6 10) (show w5.cell? ⟨bX, 11, none⟩ = some d11 from box_cell hX6 11) (show w5.cell? ⟨bX, 12, none⟩ = some d12 from box_cell hX6 12) (show w5.cell? ⟨bX, 13, none⟩ = some d13 from box_cell hX6 13) (show w5.cell? ⟨bX, 14, none⟩ = some d14 from box_cell hX6 14) (show w5.cell? ⟨bX, 15, none⟩ = some d15 from box_cell hX6 15) (show w5.cell? ⟨bY, 0, none⟩ = some g0 from box_cell hY6 0) (show w5.cell? ⟨bY, 1, none⟩ = some g1 from box_cell hY6 1) (show w5.cell? ⟨bY, 2, none⟩ = some g2 from box_cell hY6 2) (show w5.cell? ⟨bY, 3, none⟩ = some g3 from box_cell hY6 3) (show w5.cell? ⟨bY, 4, none⟩ = some g4 from box_cell hY6 4) (show w5.cell? ⟨bY, 5, none⟩ = some g5 from box_cell hY6 5) (show w5.cell? ⟨bY, 6, none⟩ = some g6 from box_cell hY6 6) (show w5.cell? ⟨bY, 7, none⟩ = some g7 from box_cell hY6 7) (show w5.cell? ⟨bY, 8, none⟩ = some g8 from box_cell hY6 8) (show w5.cell? ⟨bY, 9, none⟩ = some g9 from box_cell hY6 9) (show w5.cell? ⟨bY, 10, none⟩ = some g10 from box_cell hY6 10) (show w5.cell? ⟨bY, 11, none⟩ = some g11 from box_cell hY6 11) (show w5.cell? ⟨bY, 12, none⟩ = some g12 from box_cell hY6 12) (show w5.cell? ⟨bY, 13, none⟩ = some g13 from box_cell hY6 13) (show w5.cell? ⟨bY, 14, none⟩ = some g14 from box_cell hY6 14) (show w5.cell? ⟨bY, 15, none⟩ = some g15 from box_cell hY6 15)
          have S0 : Hid _ := s0
          have N1 : Hid _ := n1'
          have N2 : Hid _ := n2'
          have N3 : Hid _ := n3'
          have N4 : Hid _ := n4'
          have N6 : Hid _ := n6'
          have HSm : Hid _ := hsm
          have K9 : Hid _ := k9
          have HLc : Hid _ := hlc
          have HLd : Hid _ := hld
          have HLg : Hid _ := hlg
          have HB5 : Hid _ := hB5
          clear KX hM6 hX6 hY6 s0 n1' n2' n3' n4' n6' hsm k9 hlc hld hlg hB5 hq hq' hz0 hl
          generalize Value.agg #[c0, c1, c2, c3, c4, c5, c6, c7, c8, c9, c10, c11, c12, c13, c14, c15] = gM
          generalize Value.agg #[d0, d1, d2, d3, d4, d5, d6, d7, d8, d9, d10, d11, d12, d13, d14, d15] = gX
          generalize Value.agg #[g0, g1, g2, g3, g4, g5, g6, g7, g8, g9, g10, g11, g12, g13, g14, g15] = gY
          as_aux_lemma =>
            go_region_held3 (fun w' => w'.cell? ⟨bM, 0, none⟩ = some (c0) ∧ w'.cell? ⟨bM, 1, none⟩ = some (c1) ∧ w'.cell? ⟨bM, 2, none⟩ = some (c2) ∧ w'.cell? ⟨bM, 3, none⟩ = some (c3) ∧ w'.cell? ⟨bM, 4, none⟩ = some (c4) ∧ w'.cell? ⟨bM, 5, none⟩ = some (c5) ∧ w'.cell? ⟨bM, 6, none⟩ = some (c6) ∧ w'.cell? ⟨bM, 7, none⟩ = some (c7) ∧ w'.cell? ⟨bM, 8, none⟩ = some (c8) ∧ w'.cell? ⟨bM, 9, none⟩ = some (c9) ∧ w'.cell? ⟨bM, 10, none⟩ = some (c10) ∧ w'.cell? ⟨bM, 11, none⟩ = some (c11) ∧ w'.cell? ⟨bM, 12, none⟩ = some (c12) ∧ w'.cell? ⟨bM, 13, none⟩ = some (c13) ∧ w'.cell? ⟨bM, 14, none⟩ = some (c14) ∧ w'.cell? ⟨bM, 15, none⟩ = some (c15) ∧ w'.cell? ⟨bX, 0, none⟩ = some (d0) ∧ w'.cell? ⟨bX, 1, none⟩ = some (d1) ∧ w'.cell? ⟨bX, 2, none⟩ = some (d2) ∧ w'.cell? ⟨bX, 3, none⟩ = some (d3) ∧ w'.cell? ⟨bX, 4, none⟩ = some (d4) ∧ w'.cell? ⟨bX, 5, none⟩ = some (d5) ∧ w'.cell? ⟨bX, 6, none⟩ = some (d6) ∧ w'.cell? ⟨bX, 7, none⟩ = some (d7) ∧ w'.cell? ⟨bX, 8, none⟩ = some (d8) ∧ w'.cell? ⟨bX, 9, none⟩ = some (d9) ∧ w'.cell? ⟨bX, 10, none⟩ = some (d10) ∧ w'.cell? ⟨bX, 11, none⟩ = some (d11) ∧ w'.cell? ⟨bX, 12, none⟩ = some (d12) ∧ w'.cell? ⟨bX, 13, none⟩ = some (d13) ∧ w'.cell? ⟨bX, 14, none⟩ = some (d14) ∧ w'.cell? ⟨bX, 15, none⟩ = some (d15) ∧ w'.cell? ⟨bY, 0, none⟩ = some (g0) ∧ w'.cell? ⟨bY, 1, none⟩ = some (g1) ∧ w'.cell? ⟨bY, 2, none⟩ = some (g2) ∧ w'.cell? ⟨bY, 3, none⟩ = some (g3) ∧ w'.cell? ⟨bY, 4, none⟩ = some (g4) ∧ w'.cell? ⟨bY, 5, none⟩ = some (g5) ∧ w'.cell? ⟨bY, 6, none⟩ = some (g6) ∧ w'.cell? ⟨bY, 7, none⟩ = some (g7) ∧ w'.cell? ⟨bY, 8, none⟩ = some (g8) ∧ w'.cell? ⟨bY, 9, none⟩ = some (g9) ∧ w'.cell? ⟨bY, 10, none⟩ = some (g10) ∧ w'.cell? ⟨bY, 11, none⟩ = some (g11) ∧ w'.cell? ⟨bY, 12, none⟩ = some (g12) ∧ w'.cell? ⟨bY, 13, none⟩ = some (g13) ∧ w'.cell? ⟨bY, 14, none⟩ = some (g14) ∧ w'.cell? ⟨bY, 15, none⟩ = some (g15) ∧ Below w5.heap.size w5 w')
              (first | exact S0.out | assumption | (as_aux_lemma => exact keepV HLc.out HLd.out HLg.out (by assumption) (by assumption)))
              (first
                | (go_at_call 17; refine Calls.mono (N1.out _ (keepVB (by assumption))) ?_; rintro _ u1 ⟨rfl, j1⟩)
                | (go_at_call 18; refine Calls.mono (N2.out _ (keepVB (by assumption))) ?_; rintro _ u2 ⟨rfl, j2⟩)
                | (go_at_call 20; refine Calls.mono (N3.out _ (keepVB (by assumption))) ?_; rintro _ u3 ⟨v3, rfl, ho3, j3⟩; obtain ⟨p3, q3, rfl, -, -, -⟩ := id ho3.has; replace ho3 := ho3.has)
                | (go_at_call 21; refine Calls.mono (N4.out _ (keepVB (by assumption))) ?_; rintro _ u4 ⟨v4, rfl, ho4, j4⟩; obtain ⟨p4, q4, rfl, -, -, -⟩ := id ho4)
                | (go_at_call 19; refine same_mono (HSm.out _ _ _ (ho3.below j4 (Nat.le_refl _)) ho4) ?_)
                | (go_at_call 22; refine Calls.mono (N6.out _ (keepVB (by assumption))) ?_; rintro _ u6 ⟨rfl, j6⟩)
                | (go_at_call 5; refine Calls.mono (K9.out _) ?_; rintro _ u7 ⟨rfl, j7⟩))
            all_goals
              go_wp2
              go_ret
              exact ⟨rfl, by rw [Hbm.out]; exact HUp.out _ (keepVB (by assumption))⟩
end Go.Proofs.YtnbaoimjcaeeaaaGreat
