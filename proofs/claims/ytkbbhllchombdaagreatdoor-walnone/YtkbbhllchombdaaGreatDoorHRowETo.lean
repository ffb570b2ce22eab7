import Derived.Test.YtkbbhllchombdaaGreatDoorEnQTo
import Derived.Test.YtkbbhllchombdaaGreatDoorIRow
namespace Go.Proofs.YtkbbhllchombdaaGreatDoor
open Go.RowKit
theorem HasI.at {w : World} {p : Option Addr} {n c : Nat} {xs : List Int} (h : HasI w (.slice p n c) xs) {j : Nat} (hj : j < n) : ∃ b o, p = some ⟨b, o, none⟩ ∧ b < w.heap.size ∧ w.cell? ⟨b, o + j, none⟩ = some (.int .i64 (xs.getD j 0)) := by
  obtain ⟨q, d, hv, _, _, hc⟩ := h
  simp only [Value.slice.injEq] at hv
  obtain ⟨rfl, rfl, rfl⟩ := hv
  obtain ⟨b, o, hp, hlt, hcl⟩ := hc (by omega)
  exact ⟨b, o, hp, hlt, hcl j hj⟩
theorem HasI.len {w : World} {p : Option Addr} {n c : Nat} {xs : List Int} (h : HasI w (.slice p n c) xs) : xs.length = n ∧ n ≤ c ∧ (p = none → c = 0) := by
  obtain ⟨q, d, hv, h1, h2, _⟩ := h
  simp only [Value.slice.injEq] at hv
  obtain ⟨rfl, rfl, rfl⟩ := hv
  exact ⟨rfl, h1, h2⟩

structure Sl10 where
  p : Option Addr
  n : Nat
  c : Nat
def nilS10 : Sl10 := ⟨none, 0, 0⟩

structure ConfV where
  u : Sl10
  v : Sl10
  f : Conf10
def noFV : ConfV := ⟨nilS10, nilS10, noF10⟩
def ConfV.arr (x : ConfV) : Array Value := #[.slice x.u.p x.u.n x.u.c, .slice x.v.p x.v.n x.v.c]
structure EntV where
  i : Int
  t : Int
  k : Int
  c : Cmd9
  f : ConfV
def EntV.e (x : EntV) : Ent10 := ⟨x.i, x.t, x.k, x.c, x.f.f⟩
def noEV : EntV := ⟨0, 0, 0, zeroC9, noFV⟩
def EntV.arr (x : EntV) : Array Value := #[.int .i64 x.i, .int .i64 x.t, .int .i64 x.k, .int .i64 x.c.k, .int .i64 x.c.s, .int .i64 x.c.q, .string x.c.key, .string x.c.old, .string x.c.val, .string x.c.unt, .int .i64 x.c.lim, .slice x.f.u.p x.f.u.n x.f.u.c, .slice x.f.v.p x.f.v.n x.f.v.c]
def Hard10.arr (h : Hard10) : Array Value := #[.int .i64 h.t, .int .i64 h.v, .int .i64 h.c]
structure FitsF (W : World) (x : ConfV) : Prop where
  u : HasI W (.slice x.u.p x.u.n x.u.c) x.f.vs
  v : HasI W (.slice x.v.p x.v.n x.v.c) x.f.ls
  iu : inL x.f.vs
  iv : inL x.f.ls
  lu : x.f.vs.length ≤ 17592186044416
  lv : x.f.ls.length ≤ 17592186044416
structure FitsE (W : World) (x : EntV) : Prop where
  i : inI x.i
  t : inI x.t
  k : inI x.k
  c : Fits9 x.c
  f : FitsF W x.f
def FitsH (h : Hard10) : Prop := inI h.t ∧ inI h.v ∧ inI h.c
structure HasE (W : World) (s : Sl10) (es : List EntV) : Prop where
  n : es.length = s.n
  c : s.n ≤ s.c
  nl : s.p = none → s.c = 0
  at' : 0 < s.n → ∃ b o, s.p = some ⟨b, o, none⟩ ∧ b < W.heap.size ∧ ∀ i, i < s.n → ∀ j, j < 13 → W.cell? ⟨b, o + i * 13 + j, none⟩ = (es.getD i noEV).arr[j]?
  all : ∀ e ∈ es, FitsE W e
theorem FitsF.below {W W' : World} {x : ConfV} (h : FitsF W x) (hb : Below W.heap.size W W') : FitsF W' x :=
  ⟨h.u.below hb (Nat.le_refl _), h.v.below hb (Nat.le_refl _), h.iu, h.iv, h.lu, h.lv⟩
theorem FitsE.below {W W' : World} {x : EntV} (h : FitsE W x) (hb : Below W.heap.size W W') : FitsE W' x := ⟨h.i, h.t, h.k, h.c, h.f.below hb⟩
theorem HasE.below {W W' : World} {s : Sl10} {es : List EntV} (h : HasE W s es) (hb : Below W.heap.size W W') : HasE W' s es :=
  ⟨h.n, h.c, h.nl, fun h0 => by
    obtain ⟨b, o, hp, hlt, hc⟩ := h.at' h0
    exact ⟨b, o, hp, Nat.lt_of_lt_of_le hlt hb.size, fun i hi j hj => (hb.cell (p := ⟨b, o + i * 13 + j, none⟩) hlt).trans (hc i hi j hj)⟩, fun e he => (h.all e he).below hb⟩
theorem FitsF.nil (W : World) : FitsF W noFV := ⟨HasI.nil W, HasI.nil W, (fun _ h => by cases h), (fun _ h => by cases h), Nat.zero_le _, Nat.zero_le _⟩
theorem HasE.nil (W : World) : HasE W nilS10 [] := ⟨rfl, Nat.le_refl _, fun _ => rfl, fun h => absurd h (Nat.lt_irrefl 0), fun _ h => by cases h⟩
theorem noEV_e : noEV.e = noE10 := rfl
theorem box_below {w w' : World} {b : Nat} {o : Obj} (h : w.heap[b]? = some o) (hb : Below w.heap.size w w') : w'.heap[b]? = some o := (hb.block b (Array.getElem?_eq_some_iff.1 h).1).trans h
theorem box_lt {w : World} {b : Nat} {o : Obj} (h : w.heap[b]? = some o) : b < w.heap.size := (Array.getElem?_eq_some_iff.1 h).1
theorem box_cell {w : World} {b : Nat} {a : Array Value} {t : TypeId} {fr : Nat × Nat} (h : w.heap[b]? = some (.cells a t fr)) (j : Nat) : w.cell? ⟨b, j, none⟩ = a[j]? := by
  unfold World.cell?
  dsimp only
  rw [h]
  rfl


def ConfAt (w : World) (b : Nat) (x : ConfV) : Prop := w.heap[b]? = some (.cells x.arr 26 (0, 0))
theorem ConfAt.cells {w : World} {b : Nat} {x : ConfV} (h : ConfAt w b x) : w.cell? ⟨b, 0, none⟩ = some (.slice x.u.p x.u.n x.u.c) ∧ w.cell? ⟨b, 1, none⟩ = some (.slice x.v.p x.v.n x.v.c) := ⟨box_cell h 0, box_cell h 1⟩

def EntAt (w : World) (b : Nat) (x : EntV) : Prop := w.heap[b]? = some (.cells x.arr 28 (0, 0))
theorem EntAt.cells {w : World} {b : Nat} {x : EntV} (h : EntAt w b x) :
    w.cell? ⟨b, 0, none⟩ = some (.int .i64 x.i) ∧ w.cell? ⟨b, 1, none⟩ = some (.int .i64 x.t) ∧ w.cell? ⟨b, 2, none⟩ = some (.int .i64 x.k) ∧
    w.cell? ⟨b, 3, none⟩ = some (.int .i64 x.c.k) ∧ w.cell? ⟨b, 4, none⟩ = some (.int .i64 x.c.s) ∧ w.cell? ⟨b, 5, none⟩ = some (.int .i64 x.c.q) ∧ w.cell? ⟨b, 6, none⟩ = some (.string x.c.key) ∧
    w.cell? ⟨b, 7, none⟩ = some (.string x.c.old) ∧ w.cell? ⟨b, 8, none⟩ = some (.string x.c.val) ∧ w.cell? ⟨b, 9, none⟩ = some (.string x.c.unt) ∧ w.cell? ⟨b, 10, none⟩ = some (.int .i64 x.c.lim) ∧
    w.cell? ⟨b, 11, none⟩ = some (.slice x.f.u.p x.f.u.n x.f.u.c) ∧ w.cell? ⟨b, 12, none⟩ = some (.slice x.f.v.p x.f.v.n x.f.v.c) :=
  ⟨box_cell h 0, box_cell h 1, box_cell h 2, box_cell h 3, box_cell h 4, box_cell h 5, box_cell h 6, box_cell h 7, box_cell h 8, box_cell h 9, box_cell h 10, box_cell h 11, box_cell h 12⟩

end Go.Proofs.YtkbbhllchombdaaGreatDoor

namespace Go.Proofs.YtkbbhllchombdaaGreatDoor
open Go.ChangeShapes Go.WideShapes Go.ChangeAt Go.RowKit Go.Deep
section
variable {H : Type} {enc : TypeId × Value → H} {W : World} {spare : Nat → Bool} {held : Bool} {b0 base fuel : Nat}

set_option maxRecDepth 100000 in
theorem open_hard10 {v : Value} {d : DataW H} {p : List MemPlace} (hv : Value.okWide Tryz.prog W .any b0 30 v) (h : DataW.Trod enc Tryz.prog W base spare held 30 v d p) :
    ∃ A : Hard10, v = .agg A.arr ∧ FitsH A := by
  obtain ⟨cs, rfl, hsz⟩ := okWide_struct Tryz.underlying30 hv
  rw [show Tryz.prog.cellsOf 30 = 3 by kernel_rfl] at hsz
  obtain ⟨fuel, hf⟩ := h
  obtain ⟨xs, k', hk, hxy, _, hxl, hf⟩ := DataW.trod_struct Tryz.underlying30 hf
  match xs, hxl, cs, hsz with
  | [y0, y1, y2], _, ⟨[v0, v1, v2]⟩, _ =>
    have g0 := hf 0 _ rfl
    have g1 := hf 1 _ rfl
    have g2 := hf 2 _ rfl
    simp [show Tryz.prog.cellsOf 3 = 1 by kernel_rfl, Value.cells] at g0 g1 g2
    obtain ⟨z0, hz0, rfl, w0⟩ := DataW.trod_int Tryz.underlying3 g0
    obtain ⟨z1, hz1, rfl, w1⟩ := DataW.trod_int Tryz.underlying3 g1
    obtain ⟨z2, hz2, rfl, w2⟩ := DataW.trod_int Tryz.underlying3 g2
    cases hz0; cases hz1; cases hz2
    exact ⟨⟨z0, z1, z2⟩, rfl, bounds_i64 w0, bounds_i64 w1, bounds_i64 w2⟩

end
end Go.Proofs.YtkbbhllchombdaaGreatDoor
