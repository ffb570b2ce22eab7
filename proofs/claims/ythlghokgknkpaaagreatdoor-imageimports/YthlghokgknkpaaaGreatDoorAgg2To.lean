import Derived.Test.YthlghokgknkpaaaGreatDoorBaseTo
import Derived.RangeFuncNested
import Derived.RangeFuncFrom
import Derived.RangeFuncBound
import Derived.RangeFuncCalls
import Derived.RangeFuncLeaves
import Derived.Shelf.Abstract
import Derived.Shelf.RegionOpen
import Derived.OwnWalkIn
import Derived.TacticsInMore
import Derived.LoopNIn
import Derived.LoopIn
import Derived.ProofKit
import Derived.OpenShut
import Derived.Test.YthlghokgknkpaaaGreatDoorChecked
import Derived.WalkKit
import Derived.ChangeSame
/-
  Contracts: group.First, Next; what a callee leaves as it is.
-/
namespace Go.Proofs.YthlghokgknkpaaaGreatDoor
open Go.RowKit Go.Shelf

/-- The table, by its text. -/
def lowT : List Nat := [4, 0, 1, 0, 2, 0, 1, 0, 3, 0, 1, 0, 2, 0, 1, 0]
def Tab (w : World) : Prop := 0 < w.heap.size ∧ ∀ i : Nat, i < 16 → w.cell? ⟨0, i, none⟩ = some (.int .i64 (lowT.getD i 0 : Nat))
theorem Tab.below {w w' : World} {B : Nat} (h : Tab w) (hb : Below B w w') (hB : 0 < B) : Tab w' :=
  ⟨Nat.lt_of_lt_of_le h.1 hb.size, fun i hi => (hb.cell (p := ⟨0, i, none⟩) hB).trans (h.2 i hi)⟩

def lowN (s : Nat) : Nat := lowT.getD s 0
def firstN (s : Nat) : Nat := if lowN (s % 16) = 4 then 4 + lowN (s / 16) else lowN (s % 16)
def nextN (s : Nat) : Nat := s &&& (s + 255) % 256
def slotsL (s : Nat) : List Nat := (List.range 8).filter fun i => s / 2 ^ i % 2 = 1
theorem lowN_le : ∀ s : Fin 16, lowN s.val ≤ 4 := by decide
theorem nextN_lt (s : Nat) (h : s < 256) : nextN s < 256 := Nat.lt_of_le_of_lt Nat.and_le_left h
theorem slots_step : ∀ s : Fin 256, s.val ≠ 0 → slotsL s.val = firstN s.val :: slotsL (nextN s.val) := by decide +kernel
theorem slots_zero : slotsL 0 = [] := by decide
theorem slots_le (s : Nat) : (slotsL s).length ≤ 8 := by
  have := List.length_filter_le (fun i => decide (s / 2 ^ i % 2 = 1)) (List.range 8)
  rw [List.length_range] at this
  exact this
theorem Tab.at {w : World} (h : Tab w) (s : Nat) (hs : s < 16) : w.cell? ⟨0, s, none⟩ = some (.int .i64 (lowN s : Nat)) := h.2 s hs

set_option maxHeartbeats 1000000 in
theorem first_any (s : Nat) (w : World) (hT : Tab w) (hs : s < 256) : Calls Tryz.prog 68 #[.int .u8 s] w fun e w' => e = .returned (.int .i64 (firstN s : Nat)) ∧ w' = w := by
  have e1 : bits .and .u8 (s : Int) 15 = ((s % 16 : Nat) : Int) := by
    rw [show (15 : Int) = ((15 : Nat) : Int) from rfl, u8_and_nat s 15 hs (by decide), nat_mask4]
  have c1 := hT.at (s % 16) (by omega)
  have c2 := hT.at (s / 16) (by omega)
  have l1 := lowN_le ⟨s % 16, by omega⟩
  have l2 := lowN_le ⟨s / 16, by omega⟩
  have e2 : firstN s = if lowN (s % 16) = 4 then 4 + lowN (s / 16) else lowN (s % 16) := rfl
  dsimp only at l1 l2
  generalize lowN (s % 16) = a at *
  generalize lowN (s / 16) = b at *
  generalize firstN s = f at *
  have b1 : s % 16 < 16 := by omega
  have b2 : s / 16 < 16 := by omega
  have e3 : (s : Int) / 16 = ((s / 16 : Nat) : Int) := by omega
  clear hT
  generalize s % 16 = x at *
  generalize s / 16 = y at *
  go_enter Tryz.func68, Tryz.ntmps68
  go_wp2
  · rename_i hq
    have ha : a = 4 := by have := eq_of_beq hq; omega
    go_ret
    refine ⟨?_, rfl⟩
    rw [e2, if_pos ha, ← ha]
    rfl
  · rename_i hq
    have ha : a ≠ 4 := fun h => by subst h; simp at hq
    go_ret
    refine ⟨?_, rfl⟩
    rw [e2, if_neg ha]
    rfl

set_option maxHeartbeats 1000000 in
theorem next_any (s : Nat) (w : World) (hs : s < 256) : Calls Tryz.prog 67 #[.int .u8 s] w fun e w' => e = .returned (.int .u8 (nextN s : Nat)) ∧ w' = w := by
  have e1 : IntKind.u8.wrap ((s : Int) - 1) = (((s + 255) % 256 : Nat) : Int) := by rw [IntKind.wrap_u8']; omega
  have e2 := u8_and_nat s ((s + 255) % 256) hs (Nat.mod_lt _ (by decide))
  go_enter Tryz.func67, Tryz.ntmps67
  go_wp2
  go_ret
  exact ⟨congrArg (fun x => Ending.returned (.int .u8 x)) e2, rfl⟩

theorem cell_of_box {W : World} {B : Nat} {v : Value} {t : TypeId} (h : W.heap[B]? = some (.cells #[v] t (0, 0))) : W.cell? ⟨B, 0, none⟩ = some v ∧ W.frozen? ⟨B, 0, none⟩ = false := by
  constructor <;> simp [World.cell?, World.frozen?, h]
theorem cell_new (W : World) (v : Value) (t : TypeId) : (W.alloc (.cells #[v] t)).cell? ⟨W.heap.size, 0, none⟩ = some v ∧ (W.alloc (.cells #[v] t)).frozen? ⟨W.heap.size, 0, none⟩ = false :=
  cell_of_box (World.alloc_heap_new W _)
theorem cell_alloc {W : World} {a : Addr} {v : Value} (o : Obj) (h : W.cell? a = some v) : (W.alloc o).cell? a = some v := cell_kept h (World.grownBy_alloc W o none) (fun r e => by cases e)
theorem frozen_alloc {W : World} {a : Addr} {v : Value} (o : Obj) (h : W.cell? a = some v) (hf : W.frozen? a = false) : (W.alloc o).frozen? a = false := (frozen_kept h (World.grownBy_alloc W o none) (fun r e => by cases e)).trans hf

theorem below_drewN {B : Nat} {a w : World} (h : Below B a w) : ∀ m, Below B a (w.drewN m)
  | 0 => h
  | m + 1 => (below_drewN h m).drew

theorem set_below (n : Nat) (i : Int) (k c : Nat) (hk : i % 8 = k) (w : World) (hn : n < 18446744073709551616) (hc : c < 256) : Calls Tryz.prog 42 #[.int .u64 n, .int .i64 i, .int .u8 c] w fun e w' => e = .returned (.int .u64 (putN n k c)) ∧ Below w.heap.size w w' :=
  (set_any n i k c hk w hn hc).mono fun e w' h => by
    obtain ⟨rfl, m, rfl⟩ := h
    exact ⟨rfl, below_drewN (Below.refl _ w) m⟩

end Go.Proofs.YthlghokgknkpaaaGreatDoor

/-
  From a row's own words to this proof's: the table.
-/
namespace Go.Proofs.YthlghokgknkpaaaGreatDoor
open Go.ChangeShapes Go.WideShapes Go.ChangeAt Go.RowKit

def lowI : List Int := [4, 0, 1, 0, 2, 0, 1, 0, 3, 0, 1, 0, 2, 0, 1, 0]
theorem low_eq : ∀ i : Fin 16, lowI.getD i.val 0 = ((lowT.getD i.val 0 : Nat) : Int) := by decide
theorem tab_of {W : World} (h : ∀ i, i < lowI.length → W.cell? ⟨0, i, none⟩ = some (.int .i64 (lowI.getD i 0))) : Tab W :=
  ⟨World.block_lt_of_cell? W _ (h 0 (by decide)), fun i hi => by rw [h i hi, low_eq ⟨i, hi⟩]⟩
end Go.Proofs.YthlghokgknkpaaaGreatDoor

/-
  Arguments of two words, by value: a [2]uint64 and a siphash.Key, opened.
-/
namespace Go.Proofs.YthlghokgknkpaaaGreatDoor
open Go.ChangeShapes Go.WideShapes Go.ChangeAt Go.RowKit

theorem two_of {α : Type} : ∀ (a : Array α), a.size = 2 → ∃ x y, a = #[x, y]
  | ⟨[x, y]⟩, _ => ⟨x, y, rfl⟩

theorem cellsK : Tryz.prog.cellsOf 24 = 2 := by kernel_rfl
theorem cellsU : Tryz.prog.cellsOf 22 = 1 := by kernel_rfl

/-- An array of two is read element by element. -/
theorem trod_two {H : Type} {enc : TypeId × Value → H} {W : World} {spare : Nat → Bool} {held : Bool} {P : Program} {t e : TypeId} {base fuel : Nat} {x y : Value} {r : DataW H × List MemPlace} (ht : P.underlying t = some (.array 2 e)) (hc : P.cellsOf e = 1)
    (h : DataW.trod enc P W base spare held fuel t [x, y] = some r) : ∃ n p q, DataW.trod enc P W base spare held n e [x] = some p ∧ DataW.trod enc P W base spare held n e [y] = some q := by
  cases fuel with
  | zero => simp [DataW.trod] at h
  | succ n =>
    unfold DataW.trod at h
    rw [ht] at h
    simp [show List.range 2 = [0, 1] from rfl, hc] at h
    obtain ⟨_, h⟩ := h
    cases hx : DataW.trod enc P W base spare held n e [x] with
    | none => simp [hx] at h
    | some p =>
      cases hy : DataW.trod enc P W base spare held n e [y] with
      | none => simp [hx, hy] at h
      | some q => exact ⟨n, p, q, hx, hy⟩

set_option maxRecDepth 100000 in
theorem open_key {H : Type} {enc : TypeId × Value → H} {W : World} {spare : Nat → Bool} {held : Bool} {b0 base : Nat} {v : Value} {d : DataW H} {p : List MemPlace} (hv : Value.okWide Tryz.prog W .any b0 24 v) (h : DataW.Trod enc Tryz.prog W base spare held 24 v d p) :
    ∃ x y : Int, v = .agg #[.int .u64 x, .int .u64 y] ∧ (0 ≤ x ∧ x ≤ 18446744073709551615) ∧ (0 ≤ y ∧ y ≤ 18446744073709551615) := by
  obtain ⟨cs, rfl, hsz⟩ := okWide_struct Tryz.underlying24 hv
  rw [cellsK] at hsz
  obtain ⟨c0, c1, rfl⟩ := two_of cs hsz
  obtain ⟨fuel, hf⟩ := h
  obtain ⟨q0, q1, n, _, _, h0, h1⟩ := trod_struct2 Tryz.underlying24 hf
  simp only [cellsU] at h0 h1
  obtain ⟨x, e0, _, w0⟩ := DataW.trod_int Tryz.underlying22 h0
  obtain ⟨y, e1, _, w1⟩ := DataW.trod_int Tryz.underlying22 h1
  simp [Value.cells] at e0 e1
  subst e0 e1
  exact ⟨x, y, rfl, bounds_u64 w0, bounds_u64 w1⟩
end Go.Proofs.YthlghokgknkpaaaGreatDoor
