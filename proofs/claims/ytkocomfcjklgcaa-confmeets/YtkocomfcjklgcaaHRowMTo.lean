import Derived.Test.YtkocomfcjklgcaaEnMTo
import Derived.Test.YtkocomfcjklgcaaIRow
import Derived.WalkKit
import Derived.Lib.Bytealg
import Derived.Lib.Strings
import Derived.Test.YtkocomfcjklgcaaChecked
import Derived.Test.YtkocomfcjklgcaaBase
import Derived.Test.YtkocomfcjklgcaaGet0To
import Derived.Test.YtkocomfcjklgcaaW7
import Derived.BigQuiet
import Derived.WalkSmall
import Derived.Laws.BytesArg
import Derived.Laws.StructEq
import Derived.Shelf.SlicesE.Kit
import Derived.Deep.MidRow
import Derived.ProofKit
import Derived.OpenShut
import Derived.Deep.SlicePairs
import Derived.SizedLaws
import Derived.ChangeSame
namespace Go.Proofs.Ytkocomfcjklgcaa
open Go.RowKit
theorem HasI.at {w : World} {p : Option Addr} {n c : Nat} {xs : List Int} (h : HasI w (.slice p n c) xs) {j : Nat} (hj : j < n) : ∃ b o, p = some ⟨b, o, none⟩ ∧ b < w.heap.size ∧ w.cell? ⟨b, o + j, none⟩ = some (.int .i64 (xs.getD j 0)) := by
  obtain ⟨q, d, hv, _, _, hc⟩ := h
  simp only [Value.slice.injEq] at hv
  obtain ⟨rfl, rfl, rfl⟩ := hv
  obtain ⟨b, o, hp, hlt, hcl⟩ := hc (by omega)
  exact ⟨b, o, hp, hlt, hcl j hj⟩
theorem HasI.len {w : World} {p : Option Addr} {n c : Nat} {xs : List Int} (h : HasI w (.slice p n c) xs) : xs.length = n ∧ n ≤ c ∧ (p = none → c = 0) := by
  obtain ⟨q, d, hv, h1, h2, _⟩ := h
  simp only [Value.slice.injEq] at hv
  obtain ⟨rfl, rfl, rfl⟩ := hv
  exact ⟨rfl, h1, h2⟩

structure Sl10 where
  p : Option Addr
  n : Nat
  c : Nat
def nilS10 : Sl10 := ⟨none, 0, 0⟩

structure ConfV where
  u : Sl10
  v : Sl10
  f : Conf10
def noFV : ConfV := ⟨nilS10, nilS10, noF10⟩
def ConfV.arr (x : ConfV) : Array Value := #[.slice x.u.p x.u.n x.u.c, .slice x.v.p x.v.n x.v.c]
structure FitsF (W : World) (x : ConfV) : Prop where
  u : HasI W (.slice x.u.p x.u.n x.u.c) x.f.vs
  v : HasI W (.slice x.v.p x.v.n x.v.c) x.f.ls
  iu : inL x.f.vs
  iv : inL x.f.ls
  lu : x.f.vs.length ≤ 17592186044416
  lv : x.f.ls.length ≤ 17592186044416
theorem FitsF.below {W W' : World} {x : ConfV} (h : FitsF W x) (hb : Below W.heap.size W W') : FitsF W' x :=
  ⟨h.u.below hb (Nat.le_refl _), h.v.below hb (Nat.le_refl _), h.iu, h.iv, h.lu, h.lv⟩
theorem box_below {w w' : World} {b : Nat} {o : Obj} (h : w.heap[b]? = some o) (hb : Below w.heap.size w w') : w'.heap[b]? = some o := (hb.block b (Array.getElem?_eq_some_iff.1 h).1).trans h
theorem box_lt {w : World} {b : Nat} {o : Obj} (h : w.heap[b]? = some o) : b < w.heap.size := (Array.getElem?_eq_some_iff.1 h).1
theorem box_cell {w : World} {b : Nat} {a : Array Value} {t : TypeId} {fr : Nat × Nat} (h : w.heap[b]? = some (.cells a t fr)) (j : Nat) : w.cell? ⟨b, j, none⟩ = a[j]? := by
  unfold World.cell?
  dsimp only
  rw [h]
  rfl


def ConfAt (w : World) (b : Nat) (x : ConfV) : Prop := w.heap[b]? = some (.cells x.arr 24 (0, 0))
end Go.Proofs.Ytkocomfcjklgcaa

namespace Go.Proofs.Ytkocomfcjklgcaa
open Go.ChangeShapes Go.WideShapes Go.ChangeAt Go.RowKit Go.Deep
section
variable {H : Type} {enc : TypeId × Value → H} {W : World} {spare : Nat → Bool} {held : Bool} {b0 base fuel : Nat}

theorem ints_in10 {a : Option Addr} {n c : Nat} {x : DataW H × List MemPlace} (h : DataW.trod enc Try.prog W base spare held fuel 22 [.slice a n c] = some x) (hw : ∀ q ∈ x.1.weights Try.prog 22, q ≤ reachBytes) :
    ∃ zs : List Int, zs.length = n ∧ HasI W (.slice a n c) zs ∧ inL zs ∧ n ≤ 17592186044416 := by
  rcases open_ints Try.underlying22 Try.underlying3 (by kernel_rfl) h with ⟨hcs, _⟩ | ⟨a', l, c', zs, hcs, _, hl, hm, hz, hx, hcell, hwz⟩
  · simp only [List.cons.injEq, Value.slice.injEq, and_true] at hcs
    obtain ⟨rfl, rfl, rfl⟩ := hcs
    exact ⟨[], rfl, HasI.nil W, (fun _ h => by cases h), by omega⟩
  · simp only [List.cons.injEq, Value.slice.injEq, and_true] at hcs
    obtain ⟨rfl, rfl, rfl⟩ := hcs
    have hnz : n ≤ zs.length := by rw [hz]; split <;> omega
    have hlen : (zs.take n).length = n := by rw [List.length_take]; omega
    have hs : n ≤ 17592186044416 := by
      have := hw ((((lits IntKind.i64 (zs.take n)) : List (DataW H)).length + ((lits IntKind.i64 (zs.drop n)) : List (DataW H)).length) * Try.prog.bytesOf 3) (by rw [hx]; simp [DataW.weights, Try.underlying22])
      rw [show Try.prog.bytesOf 3 = 8 by kernel_rfl] at this
      simp only [lits, List.length_map, hlen, reachBytes] at this
      omega
    refine ⟨zs.take n, hlen, ⟨some a', c, by rw [hlen], by rw [hlen]; exact hl, (fun h => by cases h), fun h0 => ?_⟩, fun z hz => ?_, hs⟩
    · rw [hlen] at h0 ⊢
      obtain ⟨b, o, s⟩ := a'
      obtain rfl : s = none := by simpa [Addr.add] using World.cell?_spot (hcell 0 (by omega))
      refine ⟨b, o, rfl, World.block_lt_of_cell? W _ (hcell 0 (by omega)), fun i hi => ?_⟩
      rw [← Go.WideShapes.add_plain, hcell i (by omega)]
      simp [List.getD_eq_getElem?_getD, hi]
    · exact bounds_i64 (hwz z (List.mem_of_mem_take hz))

theorem slice_form10 {t e : TypeId} (ht : Try.prog.underlying t = some (.slice e)) {v : Value} {x : DataW H × List MemPlace} (h : DataW.trod enc Try.prog W base spare held fuel t [v] = some x) : ∃ a m k, v = .slice a m k := by
  rcases open_slice ht h with ⟨hcs, _⟩ | ⟨a', len, cap, m, k, D, Pl, hcs, _⟩
  · simp at hcs; exact ⟨_, _, _, hcs⟩
  · simp at hcs; exact ⟨_, _, _, hcs⟩

set_option maxRecDepth 100000 in
theorem conf_in10 {cs : List Value} {x : DataW H × List MemPlace} (hlen : cs.length = 2) (h : DataW.trod enc Try.prog W base spare held fuel 24 cs = some x) (hw : ∀ q ∈ x.1.weights Try.prog 24, q ≤ reachBytes) :
    ∃ A : ConfV, cs = A.arr.toList ∧ FitsF W A := by
  obtain ⟨xs, k', hk, hxy, _, hxl, hf⟩ := DataW.trod_struct Try.underlying24 h
  match xs, hxl, cs, hlen with
  | [y0, y1], _, [v0, v1], _ =>
    have g0 := hf 0 _ rfl
    have g1 := hf 1 _ rfl
    simp [show Try.prog.cellsOf 22 = 1 by kernel_rfl] at g0 g1
    simp only [List.map_cons, List.map_nil] at hxy
    have hx1 : x.1 = .agg [y0.1, y1.1] := by rw [hxy]
    rw [hx1] at hw
    simp only [DataW.weights, Try.underlying24, DataW.weightsEach, List.map_cons, List.map_nil, List.append_nil, List.mem_append] at hw
    obtain ⟨a0, n0, c0, rfl⟩ := slice_form10 Try.underlying22 g0
    obtain ⟨a1, n1, c1, rfl⟩ := slice_form10 Try.underlying22 g1
    obtain ⟨z0, e0, p0, q0, r0⟩ := ints_in10 g0 fun q hq => hw q (by simp only [hq, true_or])
    obtain ⟨z1, e1, p1, q1, r1⟩ := ints_in10 g1 fun q hq => hw q (by simp only [hq, or_true])
    exact ⟨⟨⟨a0, n0, c0⟩, ⟨a1, n1, c1⟩, ⟨z0, z1⟩⟩, rfl, ⟨p0, p1, q0, q1, by rw [e0]; exact r0, by rw [e1]; exact r1⟩⟩

set_option maxRecDepth 100000 in
theorem open_conf10 {v : Value} {d : DataW H} {p : List MemPlace} (hv : Value.okWide Try.prog W .any b0 24 v) (h : DataW.Trod enc Try.prog W base spare held 24 v d p) (hw : ∀ q ∈ d.weights Try.prog 24, q ≤ reachBytes) :
    ∃ A : ConfV, v = .agg A.arr ∧ FitsF W A := by
  obtain ⟨cs, rfl, hsz⟩ := okWide_struct Try.underlying24 hv
  rw [show Try.prog.cellsOf 24 = 2 by kernel_rfl] at hsz
  obtain ⟨fuel, hf⟩ := h
  obtain ⟨A, hA, hF⟩ := conf_in10 (x := (d, p)) (by simpa [Value.cells] using hsz) hf hw
  refine ⟨A, ?_, hF⟩
  rw [show cs = A.arr from Array.toList_inj.1 (by simpa [Value.cells] using hA)]

end
structure StepV15 where
  k : Int
  n : Int
  s : Sl10
  b : List Int
def StepV15.arr (x : StepV15) : Array Value := #[.int .i64 x.k, .int .i64 x.n, .slice x.s.p x.s.n x.s.c]
structure FitsT15 (W : World) (x : StepV15) : Prop where
  b : HasI W (.slice x.s.p x.s.n x.s.c) x.b
  l : x.s.n ≤ 17592186044416

section
variable {H : Type} {enc : TypeId × Value → H} {W : World} {spare : Nat → Bool} {held : Bool} {b0 base fuel : Nat}
set_option maxRecDepth 100000 in
theorem step_in15 {cs : List Value} {x : DataW H × List MemPlace} (hlen : cs.length = 3) (h : DataW.trod enc Try.prog W base spare held fuel 38 cs = some x) (hw : ∀ q ∈ x.1.weights Try.prog 38, q ≤ reachBytes) :
    ∃ A : StepV15, cs = A.arr.toList ∧ FitsT15 W A := by
  obtain ⟨xs, k', hk, hxy, _, hxl, hf⟩ := DataW.trod_struct Try.underlying38 h
  match xs, hxl, cs, hlen with
  | [y0, y1, y2], _, [v0, v1, v2], _ =>
    have g0 := hf 0 _ rfl
    have g1 := hf 1 _ rfl
    have g2 := hf 2 _ rfl
    simp [show Try.prog.cellsOf 3 = 1 by kernel_rfl, show Try.prog.cellsOf 22 = 1 by kernel_rfl] at g0 g1 g2
    simp only [List.map_cons, List.map_nil] at hxy
    have hx1 : x.1 = .agg [y0.1, y1.1, y2.1] := by rw [hxy]
    rw [hx1] at hw
    simp only [DataW.weights, Try.underlying38, DataW.weightsEach, List.map_cons, List.map_nil, List.append_nil, List.mem_append] at hw
    obtain ⟨z0, hz0, rfl, w0⟩ := DataW.trod_int Try.underlying3 g0
    obtain ⟨z1, hz1, rfl, w1⟩ := DataW.trod_int Try.underlying3 g1
    cases hz0; cases hz1
    obtain ⟨a, n, c, rfl⟩ := slice_form10 Try.underlying22 g2
    obtain ⟨zs, h1, h2, _, h3⟩ := ints_in10 g2 fun q hq => hw q (by simp only [hq, or_true])
    exact ⟨⟨z0, z1, ⟨a, n, c⟩, zs⟩, rfl, ⟨h2, h3⟩⟩
set_option maxRecDepth 100000 in
theorem open_step15 {v : Value} {d : DataW H} {p : List MemPlace} (hv : Value.okWide Try.prog W .any b0 38 v) (h : DataW.Trod enc Try.prog W base spare held 38 v d p) (hw : ∀ q ∈ d.weights Try.prog 38, q ≤ reachBytes) :
    ∃ A : StepV15, v = .agg A.arr ∧ FitsT15 W A := by
  obtain ⟨cs, rfl, hsz⟩ := okWide_struct Try.underlying38 hv
  rw [show Try.prog.cellsOf 38 = 3 by kernel_rfl] at hsz
  obtain ⟨fuel, hf⟩ := h
  obtain ⟨A, hA, hF⟩ := step_in15 (x := (d, p)) (by simpa [Value.cells] using hsz) hf hw
  refine ⟨A, ?_, hF⟩
  rw [show cs = A.arr from Array.toList_inj.1 (by simpa [Value.cells] using hA)]
end
end Go.Proofs.Ytkocomfcjklgcaa
