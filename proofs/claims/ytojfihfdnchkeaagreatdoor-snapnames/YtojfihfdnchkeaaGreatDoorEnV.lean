import Derived.Test.YtojfihfdnchkeaaGreatDoorEnRTo
import Derived.Test.YtojfihfdnchkeaaGreatDoorIRow
import Derived.Test.YtojfihfdnchkeaaGreatDoorCmA
import Derived.Test.YtojfihfdnchkeaaGreatDoorCmPTo
import Derived.ProofKit
import Derived.OpenShut
import Derived.Deep.SlicePairs
import Derived.SizedLaws
import Derived.ChangeSame
namespace Go.Proofs.YtojfihfdnchkeaaGreatDoor
open Go.RowKit

theorem HasI.at {w : World} {p : Option Addr} {n c : Nat} {xs : List Int} (h : HasI w (.slice p n c) xs) {j : Nat} (hj : j < n) : ∃ b o, p = some ⟨b, o, none⟩ ∧ b < w.heap.size ∧ w.cell? ⟨b, o + j, none⟩ = some (.int .i64 (xs.getD j 0)) := by
  obtain ⟨q, d, hv, _, _, hc⟩ := h
  simp only [Value.slice.injEq] at hv
  obtain ⟨rfl, rfl, rfl⟩ := hv
  obtain ⟨b, o, hp, hlt, hcl⟩ := hc (by omega)
  exact ⟨b, o, hp, hlt, hcl j hj⟩
theorem HasI.len {w : World} {p : Option Addr} {n c : Nat} {xs : List Int} (h : HasI w (.slice p n c) xs) : xs.length = n ∧ n ≤ c ∧ (p = none → c = 0) := by
  obtain ⟨q, d, hv, h1, h2, _⟩ := h
  simp only [Value.slice.injEq] at hv
  obtain ⟨rfl, rfl, rfl⟩ := hv
  exact ⟨rfl, h1, h2⟩

structure Sl10 where
  p : Option Addr
  n : Nat
  c : Nat
def nilS10 : Sl10 := ⟨none, 0, 0⟩

structure ConfV where
  u : Sl10
  v : Sl10
  f : Conf10
def noFV : ConfV := ⟨nilS10, nilS10, noF10⟩
def ConfV.arr (x : ConfV) : Array Value := #[.slice x.u.p x.u.n x.u.c, .slice x.v.p x.v.n x.v.c]
structure SnapV where
  i : Int
  t : Int
  f : ConfV
  w : Sl10
  d : List Int
def SnapV.s (x : SnapV) : Snap10 := ⟨x.i, x.t, x.f.f, x.d⟩
def noSV : SnapV := ⟨0, 0, noFV, nilS10, []⟩
def SnapV.arr (x : SnapV) : Array Value := #[.int .i64 x.i, .int .i64 x.t, .slice x.f.u.p x.f.u.n x.f.u.c, .slice x.f.v.p x.f.v.n x.f.v.c, .slice x.w.p x.w.n x.w.c]
structure FitsF (W : World) (x : ConfV) : Prop where
  u : HasI W (.slice x.u.p x.u.n x.u.c) x.f.vs
  v : HasI W (.slice x.v.p x.v.n x.v.c) x.f.ls
  iu : inL x.f.vs
  iv : inL x.f.ls
  lu : x.f.vs.length ≤ 17592186044416
  lv : x.f.ls.length ≤ 17592186044416
structure FitsS (W : World) (x : SnapV) : Prop where
  i : inI x.i
  t : inI x.t
  f : FitsF W x.f
  w : Has W (.slice x.w.p x.w.n x.w.c) x.d
  b : IsB x.d
  l : x.d.length ≤ 140737488351232
theorem FitsF.below {W W' : World} {x : ConfV} (h : FitsF W x) (hb : Below W.heap.size W W') : FitsF W' x :=
  ⟨h.u.below hb (Nat.le_refl _), h.v.below hb (Nat.le_refl _), h.iu, h.iv, h.lu, h.lv⟩
theorem FitsS.below {W W' : World} {x : SnapV} (h : FitsS W x) (hb : Below W.heap.size W W') : FitsS W' x := ⟨h.i, h.t, h.f.below hb, h.w.below hb (Nat.le_refl _), h.b, h.l⟩
theorem box_below {w w' : World} {b : Nat} {o : Obj} (h : w.heap[b]? = some o) (hb : Below w.heap.size w w') : w'.heap[b]? = some o := (hb.block b (Array.getElem?_eq_some_iff.1 h).1).trans h
theorem box_lt {w : World} {b : Nat} {o : Obj} (h : w.heap[b]? = some o) : b < w.heap.size := (Array.getElem?_eq_some_iff.1 h).1
theorem box_cell {w : World} {b : Nat} {a : Array Value} {t : TypeId} {fr : Nat × Nat} (h : w.heap[b]? = some (.cells a t fr)) (j : Nat) : w.cell? ⟨b, j, none⟩ = a[j]? := by
  unfold World.cell?
  dsimp only
  rw [h]
  rfl


def ConfAt (w : World) (b : Nat) (x : ConfV) : Prop := w.heap[b]? = some (.cells x.arr 45 (0, 0))
theorem ConfAt.cells {w : World} {b : Nat} {x : ConfV} (h : ConfAt w b x) : w.cell? ⟨b, 0, none⟩ = some (.slice x.u.p x.u.n x.u.c) ∧ w.cell? ⟨b, 1, none⟩ = some (.slice x.v.p x.v.n x.v.c) := ⟨box_cell h 0, box_cell h 1⟩

def SnapAt (w : World) (b : Nat) (x : SnapV) : Prop := w.heap[b]? = some (.cells x.arr 47 (0, 0))
theorem SnapAt.cells {w : World} {b : Nat} {x : SnapV} (h : SnapAt w b x) :
    w.cell? ⟨b, 0, none⟩ = some (.int .i64 x.i) ∧ w.cell? ⟨b, 1, none⟩ = some (.int .i64 x.t) ∧ w.cell? ⟨b, 2, none⟩ = some (.slice x.f.u.p x.f.u.n x.f.u.c) ∧ w.cell? ⟨b, 3, none⟩ = some (.slice x.f.v.p x.f.v.n x.f.v.c) ∧ w.cell? ⟨b, 4, none⟩ = some (.slice x.w.p x.w.n x.w.c) :=
  ⟨box_cell h 0, box_cell h 1, box_cell h 2, box_cell h 3, box_cell h 4⟩

end Go.Proofs.YtojfihfdnchkeaaGreatDoor
