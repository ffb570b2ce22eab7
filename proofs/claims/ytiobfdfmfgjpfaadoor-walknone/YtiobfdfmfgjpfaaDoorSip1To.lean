import Derived.Test.YtiobfdfmfgjpfaaDoorBaseTo
import Derived.RangeFuncNested
import Derived.RangeFuncFrom
import Derived.RangeFuncBound
import Derived.RangeFuncCalls
import Derived.RangeFuncLeaves
import Derived.Shelf.Abstract
import Derived.Shelf.RegionOpen
import Derived.OwnWalkIn
import Derived.TacticsInMore
import Derived.LoopNIn
import Derived.LoopIn
import Derived.ProofKit
import Derived.OpenShut
import Derived.Test.YtiobfdfmfgjpfaaDoorChecked
import Derived.WalkKit
import Derived.Deep.RegionWith
/-
  Contracts: group.First, Next; what a callee leaves as it is.
-/
namespace Go.Proofs.YtiobfdfmfgjpfaaDoor
open Go.RowKit Go.Shelf

/-- The table, by its text. -/
def lowT : List Nat := [4, 0, 1, 0, 2, 0, 1, 0, 3, 0, 1, 0, 2, 0, 1, 0]
def Tab (w : World) : Prop := 0 < w.heap.size ∧ ∀ i : Nat, i < 16 → w.cell? ⟨0, i, none⟩ = some (.int .i64 (lowT.getD i 0 : Nat))
theorem Tab.below {w w' : World} {B : Nat} (h : Tab w) (hb : Below B w w') (hB : 0 < B) : Tab w' :=
  ⟨Nat.lt_of_lt_of_le h.1 hb.size, fun i hi => (hb.cell (p := ⟨0, i, none⟩) hB).trans (h.2 i hi)⟩

def lowN (s : Nat) : Nat := lowT.getD s 0
def firstN (s : Nat) : Nat := if lowN (s % 16) = 4 then 4 + lowN (s / 16) else lowN (s % 16)
def nextN (s : Nat) : Nat := s &&& (s + 255) % 256
def slotsL (s : Nat) : List Nat := (List.range 8).filter fun i => s / 2 ^ i % 2 = 1
theorem lowN_le : ∀ s : Fin 16, lowN s.val ≤ 4 := by decide
theorem nextN_lt (s : Nat) (h : s < 256) : nextN s < 256 := Nat.lt_of_le_of_lt Nat.and_le_left h
theorem slots_step : ∀ s : Fin 256, s.val ≠ 0 → slotsL s.val = firstN s.val :: slotsL (nextN s.val) := by decide +kernel
theorem slots_zero : slotsL 0 = [] := by decide
theorem slots_le (s : Nat) : (slotsL s).length ≤ 8 := by
  have := List.length_filter_le (fun i => decide (s / 2 ^ i % 2 = 1)) (List.range 8)
  rw [List.length_range] at this
  exact this
theorem Tab.at {w : World} (h : Tab w) (s : Nat) (hs : s < 16) : w.cell? ⟨0, s, none⟩ = some (.int .i64 (lowN s : Nat)) := h.2 s hs

set_option maxHeartbeats 1000000 in
theorem first_any (s : Nat) (w : World) (hT : Tab w) (hs : s < 256) : Calls Tryd.prog 56 #[.int .u8 s] w fun e w' => e = .returned (.int .i64 (firstN s : Nat)) ∧ w' = w := by
  have e1 : bits .and .u8 (s : Int) 15 = ((s % 16 : Nat) : Int) := by
    rw [show (15 : Int) = ((15 : Nat) : Int) from rfl, u8_and_nat s 15 hs (by decide), nat_mask4]
  have c1 := hT.at (s % 16) (by omega)
  have c2 := hT.at (s / 16) (by omega)
  have l1 := lowN_le ⟨s % 16, by omega⟩
  have l2 := lowN_le ⟨s / 16, by omega⟩
  have e2 : firstN s = if lowN (s % 16) = 4 then 4 + lowN (s / 16) else lowN (s % 16) := rfl
  dsimp only at l1 l2
  generalize lowN (s % 16) = a at *
  generalize lowN (s / 16) = b at *
  generalize firstN s = f at *
  have b1 : s % 16 < 16 := by omega
  have b2 : s / 16 < 16 := by omega
  have e3 : (s : Int) / 16 = ((s / 16 : Nat) : Int) := by omega
  clear hT
  generalize s % 16 = x at *
  generalize s / 16 = y at *
  go_enter Tryd.func56, Tryd.ntmps56
  go_wp2
  · rename_i hq
    have ha : a = 4 := by have := eq_of_beq hq; omega
    go_ret
    refine ⟨?_, rfl⟩
    rw [e2, if_pos ha, ← ha]
    rfl
  · rename_i hq
    have ha : a ≠ 4 := fun h => by subst h; simp at hq
    go_ret
    refine ⟨?_, rfl⟩
    rw [e2, if_neg ha]
    rfl

set_option maxHeartbeats 1000000 in
theorem next_any (s : Nat) (w : World) (hs : s < 256) : Calls Tryd.prog 55 #[.int .u8 s] w fun e w' => e = .returned (.int .u8 (nextN s : Nat)) ∧ w' = w := by
  have e1 : IntKind.u8.wrap ((s : Int) - 1) = (((s + 255) % 256 : Nat) : Int) := by rw [IntKind.wrap_u8']; omega
  have e2 := u8_and_nat s ((s + 255) % 256) hs (Nat.mod_lt _ (by decide))
  go_enter Tryd.func55, Tryd.ntmps55
  go_wp2
  go_ret
  exact ⟨congrArg (fun x => Ending.returned (.int .u8 x)) e2, rfl⟩

theorem cell_of_box {W : World} {B : Nat} {v : Value} {t : TypeId} (h : W.heap[B]? = some (.cells #[v] t (0, 0))) : W.cell? ⟨B, 0, none⟩ = some v ∧ W.frozen? ⟨B, 0, none⟩ = false := by
  constructor <;> simp [World.cell?, World.frozen?, h]
theorem cell_new (W : World) (v : Value) (t : TypeId) : (W.alloc (.cells #[v] t)).cell? ⟨W.heap.size, 0, none⟩ = some v ∧ (W.alloc (.cells #[v] t)).frozen? ⟨W.heap.size, 0, none⟩ = false :=
  cell_of_box (World.alloc_heap_new W _)
theorem cell_alloc {W : World} {a : Addr} {v : Value} (o : Obj) (h : W.cell? a = some v) : (W.alloc o).cell? a = some v := cell_kept h (World.grownBy_alloc W o none) (fun r e => by cases e)
theorem frozen_alloc {W : World} {a : Addr} {v : Value} (o : Obj) (h : W.cell? a = some v) (hf : W.frozen? a = false) : (W.alloc o).frozen? a = false := (frozen_kept h (World.grownBy_alloc W o none) (fun r e => by cases e)).trans hf

theorem below_drewN {B : Nat} {a w : World} (h : Below B a w) : ∀ m, Below B a (w.drewN m)
  | 0 => h
  | m + 1 => (below_drewN h m).drew

theorem set_below (n : Nat) (i : Int) (k c : Nat) (hk : i % 8 = k) (w : World) (hn : n < 18446744073709551616) (hc : c < 256) : Calls Tryd.prog 42 #[.int .u64 n, .int .i64 i, .int .u8 c] w fun e w' => e = .returned (.int .u64 (putN n k c)) ∧ Below w.heap.size w w' :=
  (set_any n i k c hk w hn hc).mono fun e w' h => by
    obtain ⟨rfl, m, rfl⟩ := h
    exact ⟨rfl, below_drewN (Below.refl _ w) m⟩

end Go.Proofs.YtiobfdfmfgjpfaaDoor

/-
  From a row's own words to this proof's: the table.
-/
namespace Go.Proofs.YtiobfdfmfgjpfaaDoor
open Go.ChangeShapes Go.WideShapes Go.ChangeAt Go.RowKit

def lowI : List Int := [4, 0, 1, 0, 2, 0, 1, 0, 3, 0, 1, 0, 2, 0, 1, 0]
theorem low_eq : ∀ i : Fin 16, lowI.getD i.val 0 = ((lowT.getD i.val 0 : Nat) : Int) := by decide
theorem tab_of {W : World} (h : ∀ i, i < lowI.length → W.cell? ⟨0, i, none⟩ = some (.int .i64 (lowI.getD i 0))) : Tab W :=
  ⟨World.block_lt_of_cell? W _ (h 0 (by decide)), fun i hi => by rw [h i hi, low_eq ⟨i, hi⟩]⟩
end Go.Proofs.YtiobfdfmfgjpfaaDoor

/-
  Words turned to the left and to the right (contracts of bits.RotateLeft64, corbelref02.rotl, corbellaw02.back); a round and its way back, as the Go text reckons them; a region whose every order ends at one place.
-/
namespace Go.Proofs.YtiobfdfmfgjpfaaDoor
open Go.RowKit

/-- Turned to the left, turned to the right: as the Go text reckons them. -/
def rotI (x : Int) (r : Nat) : Int := bits .or .u64 (IntKind.u64.wrap (x * 2 ^ r)) (x / 2 ^ (64 - r))
def backI (x : Int) (r : Nat) : Int := bits .or .u64 (x / 2 ^ r) (IntKind.u64.wrap (x * 2 ^ (64 - r)))

theorem rotl_any (x : Int) (n : Nat) (r : Int) (h : r = n) (w : World) (hr : 0 < r) (hr2 : r < 64) :
    Calls Tryd.prog 87 #[.int .u64 x, .int .u64 r] w fun e w' => e = .returned (.int .u64 (rotI x n)) ∧ w' = w := by
  go_enter Tryd.func87, Tryd.ntmps87
  go_wp2
  go_ret
  exact ⟨rfl, rfl⟩

theorem rot_any (x : Int) (n : Nat) (r : Int) (h : r = n) (w : World) (hr : 0 < r) (hr2 : r < 64) (hb : bits .and .u64 (n : Int) 63 = n) :
    Calls Tryd.prog 88 #[.int .u64 x, .int .i64 r] w fun e w' => e = .returned (.int .u64 (rotI x n)) ∧ w' = w := by
  go_enter Tryd.func88, Tryd.ntmps88
  go_wp2
  go_ret
  exact ⟨rfl, rfl⟩

theorem m13 : bits .and .u64 ((13 : Nat) : Int) 63 = ((13 : Nat) : Int) := by decide +kernel
theorem m16 : bits .and .u64 ((16 : Nat) : Int) 63 = ((16 : Nat) : Int) := by decide +kernel
theorem m17 : bits .and .u64 ((17 : Nat) : Int) 63 = ((17 : Nat) : Int) := by decide +kernel
theorem m21 : bits .and .u64 ((21 : Nat) : Int) 63 = ((21 : Nat) : Int) := by decide +kernel
theorem m32 : bits .and .u64 ((32 : Nat) : Int) 63 = ((32 : Nat) : Int) := by decide +kernel

/-- Four words. -/
structure V4 where
  (a b c d : Int)

def V4.val (v : V4) : Value := .agg #[.int .u64 v.a, .int .u64 v.b, .int .u64 v.c, .int .u64 v.d]

def addI (x y : Int) : Int := IntKind.u64.wrap (x + y)
def subI (x y : Int) : Int := IntKind.u64.wrap (x - y)
def xorI (x y : Int) : Int := bits .xor .u64 x y

/-- A round, as the Go text reckons it. -/
def roundI (v : V4) : V4 :=
  let a1 := addI v.a v.b
  let b1 := xorI (rotI v.b 13) a1
  let a2 := rotI a1 32
  let c1 := addI v.c v.d
  let d1 := xorI (rotI v.d 16) c1
  let a3 := addI a2 d1
  let d2 := xorI (rotI d1 21) a3
  let c2 := addI c1 b1
  let b2 := xorI (rotI b1 17) c2
  ⟨a3, b2, rotI c2 32, d2⟩

/-- A round's way back, as the Go text reckons it. -/
def undoI (v : V4) : V4 :=
  let c1 := backI v.c 32
  let b1 := backI (xorI v.b c1) 17
  let c2 := subI c1 b1
  let d1 := backI (xorI v.d v.a) 21
  let a1 := subI v.a d1
  let d2 := backI (xorI d1 c2) 16
  let c3 := subI c2 d2
  let a2 := backI a1 32
  let b2 := backI (xorI b1 a2) 13
  ⟨subI a2 b2, b2, c3, d2⟩

def EndAt (A : Act) (W : World) : Exit → Act → World → Prop
  | .normal, a, w => a = A ∧ w = W
  | _, _, _ => False
theorem EndAt.mk {A : Act} {W : World} : EndAt A W .normal A W := ⟨rfl, rfl⟩
/-- A region whose every order ends at one place. -/
theorem one_end {P : Program} {id : Nat} {ops : Array Oper} {b : Bool} {Q : Exit → Act → World → Prop} {a : Act} {w : World} {A : Act} {W : World}
    (h : (Code.region id ops b).wp P (EndAt A W) a w) (k : Q .normal A W) : (Code.region id ops b).wp P Q a w :=
  Code.wp_mono (fun e a w h => by cases e <;> first | (obtain ⟨rfl, rfl⟩ := h; exact k) | exact h.elim) h

end Go.Proofs.YtiobfdfmfgjpfaaDoor
