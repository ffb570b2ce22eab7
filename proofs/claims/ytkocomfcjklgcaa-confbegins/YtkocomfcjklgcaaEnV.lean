import Derived.Test.YtkocomfcjklgcaaEnMTo
import Derived.Test.YtkocomfcjklgcaaIRow
import Derived.WalkKit
import Derived.Lib.Bytealg
import Derived.Lib.Strings
import Derived.Test.YtkocomfcjklgcaaChecked
import Derived.Test.YtkocomfcjklgcaaBase
import Derived.Test.YtkocomfcjklgcaaGet0To
import Derived.Test.YtkocomfcjklgcaaW7
import Derived.BigQuiet
import Derived.WalkSmall
import Derived.Laws.BytesArg
import Derived.Laws.StructEq
import Derived.Shelf.SlicesE.Kit
import Derived.Deep.MidRow
import Derived.ProofKit
import Derived.OpenShut
import Derived.Deep.SlicePairs
import Derived.SizedLaws
import Derived.ChangeSame
namespace Go.Proofs.Ytkocomfcjklgcaa
open Go.RowKit

theorem HasI.at {w : World} {p : Option Addr} {n c : Nat} {xs : List Int} (h : HasI w (.slice p n c) xs) {j : Nat} (hj : j < n) : ∃ b o, p = some ⟨b, o, none⟩ ∧ b < w.heap.size ∧ w.cell? ⟨b, o + j, none⟩ = some (.int .i64 (xs.getD j 0)) := by
  obtain ⟨q, d, hv, _, _, hc⟩ := h
  simp only [Value.slice.injEq] at hv
  obtain ⟨rfl, rfl, rfl⟩ := hv
  obtain ⟨b, o, hp, hlt, hcl⟩ := hc (by omega)
  exact ⟨b, o, hp, hlt, hcl j hj⟩
theorem HasI.len {w : World} {p : Option Addr} {n c : Nat} {xs : List Int} (h : HasI w (.slice p n c) xs) : xs.length = n ∧ n ≤ c ∧ (p = none → c = 0) := by
  obtain ⟨q, d, hv, h1, h2, _⟩ := h
  simp only [Value.slice.injEq] at hv
  obtain ⟨rfl, rfl, rfl⟩ := hv
  exact ⟨rfl, h1, h2⟩

structure Sl10 where
  p : Option Addr
  n : Nat
  c : Nat
def nilS10 : Sl10 := ⟨none, 0, 0⟩

structure ConfV where
  u : Sl10
  v : Sl10
  f : Conf10
def noFV : ConfV := ⟨nilS10, nilS10, noF10⟩
def ConfV.arr (x : ConfV) : Array Value := #[.slice x.u.p x.u.n x.u.c, .slice x.v.p x.v.n x.v.c]
structure FitsF (W : World) (x : ConfV) : Prop where
  u : HasI W (.slice x.u.p x.u.n x.u.c) x.f.vs
  v : HasI W (.slice x.v.p x.v.n x.v.c) x.f.ls
  iu : inL x.f.vs
  iv : inL x.f.ls
  lu : x.f.vs.length ≤ 17592186044416
  lv : x.f.ls.length ≤ 17592186044416
theorem FitsF.below {W W' : World} {x : ConfV} (h : FitsF W x) (hb : Below W.heap.size W W') : FitsF W' x :=
  ⟨h.u.below hb (Nat.le_refl _), h.v.below hb (Nat.le_refl _), h.iu, h.iv, h.lu, h.lv⟩
theorem box_below {w w' : World} {b : Nat} {o : Obj} (h : w.heap[b]? = some o) (hb : Below w.heap.size w w') : w'.heap[b]? = some o := (hb.block b (Array.getElem?_eq_some_iff.1 h).1).trans h
theorem box_lt {w : World} {b : Nat} {o : Obj} (h : w.heap[b]? = some o) : b < w.heap.size := (Array.getElem?_eq_some_iff.1 h).1
theorem box_cell {w : World} {b : Nat} {a : Array Value} {t : TypeId} {fr : Nat × Nat} (h : w.heap[b]? = some (.cells a t fr)) (j : Nat) : w.cell? ⟨b, j, none⟩ = a[j]? := by
  unfold World.cell?
  dsimp only
  rw [h]
  rfl


def ConfAt (w : World) (b : Nat) (x : ConfV) : Prop := w.heap[b]? = some (.cells x.arr 24 (0, 0))
theorem ConfAt.cells {w : World} {b : Nat} {x : ConfV} (h : ConfAt w b x) : w.cell? ⟨b, 0, none⟩ = some (.slice x.u.p x.u.n x.u.c) ∧ w.cell? ⟨b, 1, none⟩ = some (.slice x.v.p x.v.n x.v.c) := ⟨box_cell h 0, box_cell h 1⟩

end Go.Proofs.Ytkocomfcjklgcaa
