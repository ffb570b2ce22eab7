import Derived.Test.YtkbbhllchombdaaGreatDoorEnRTo
import Derived.Test.YtkbbhllchombdaaGreatDoorIRow
namespace Go.Proofs.YtkbbhllchombdaaGreatDoor
open Go.RowKit
theorem HasI.at {w : World} {p : Option Addr} {n c : Nat} {xs : List Int} (h : HasI w (.slice p n c) xs) {j : Nat} (hj : j < n) : ∃ b o, p = some ⟨b, o, none⟩ ∧ b < w.heap.size ∧ w.cell? ⟨b, o + j, none⟩ = some (.int .i64 (xs.getD j 0)) := by
  obtain ⟨q, d, hv, _, _, hc⟩ := h
  simp only [Value.slice.injEq] at hv
  obtain ⟨rfl, rfl, rfl⟩ := hv
  obtain ⟨b, o, hp, hlt, hcl⟩ := hc (by omega)
  exact ⟨b, o, hp, hlt, hcl j hj⟩
theorem HasI.len {w : World} {p : Option Addr} {n c : Nat} {xs : List Int} (h : HasI w (.slice p n c) xs) : xs.length = n ∧ n ≤ c ∧ (p = none → c = 0) := by
  obtain ⟨q, d, hv, h1, h2, _⟩ := h
  simp only [Value.slice.injEq] at hv
  obtain ⟨rfl, rfl, rfl⟩ := hv
  exact ⟨rfl, h1, h2⟩

structure Sl10 where
  p : Option Addr
  n : Nat
  c : Nat
def nilS10 : Sl10 := ⟨none, 0, 0⟩

structure ConfV where
  u : Sl10
  v : Sl10
  f : Conf10
def noFV : ConfV := ⟨nilS10, nilS10, noF10⟩
def ConfV.arr (x : ConfV) : Array Value := #[.slice x.u.p x.u.n x.u.c, .slice x.v.p x.v.n x.v.c]
structure EntV where
  i : Int
  t : Int
  k : Int
  c : Cmd9
  f : ConfV
def EntV.e (x : EntV) : Ent10 := ⟨x.i, x.t, x.k, x.c, x.f.f⟩
def noEV : EntV := ⟨0, 0, 0, zeroC9, noFV⟩
def EntV.arr (x : EntV) : Array Value := #[.int .i64 x.i, .int .i64 x.t, .int .i64 x.k, .int .i64 x.c.k, .int .i64 x.c.s, .int .i64 x.c.q, .string x.c.key, .string x.c.old, .string x.c.val, .string x.c.unt, .int .i64 x.c.lim, .slice x.f.u.p x.f.u.n x.f.u.c, .slice x.f.v.p x.f.v.n x.f.v.c]
def Hard10.arr (h : Hard10) : Array Value := #[.int .i64 h.t, .int .i64 h.v, .int .i64 h.c]
structure FitsF (W : World) (x : ConfV) : Prop where
  u : HasI W (.slice x.u.p x.u.n x.u.c) x.f.vs
  v : HasI W (.slice x.v.p x.v.n x.v.c) x.f.ls
  iu : inL x.f.vs
  iv : inL x.f.ls
  lu : x.f.vs.length ≤ 17592186044416
  lv : x.f.ls.length ≤ 17592186044416
structure FitsE (W : World) (x : EntV) : Prop where
  i : inI x.i
  t : inI x.t
  k : inI x.k
  c : Fits9 x.c
  f : FitsF W x.f
def FitsH (h : Hard10) : Prop := inI h.t ∧ inI h.v ∧ inI h.c
structure HasE (W : World) (s : Sl10) (es : List EntV) : Prop where
  n : es.length = s.n
  c : s.n ≤ s.c
  nl : s.p = none → s.c = 0
  at' : 0 < s.n → ∃ b o, s.p = some ⟨b, o, none⟩ ∧ b < W.heap.size ∧ ∀ i, i < s.n → ∀ j, j < 13 → W.cell? ⟨b, o + i * 13 + j, none⟩ = (es.getD i noEV).arr[j]?
  all : ∀ e ∈ es, FitsE W e
theorem FitsF.below {W W' : World} {x : ConfV} (h : FitsF W x) (hb : Below W.heap.size W W') : FitsF W' x :=
  ⟨h.u.below hb (Nat.le_refl _), h.v.below hb (Nat.le_refl _), h.iu, h.iv, h.lu, h.lv⟩
theorem FitsE.below {W W' : World} {x : EntV} (h : FitsE W x) (hb : Below W.heap.size W W') : FitsE W' x := ⟨h.i, h.t, h.k, h.c, h.f.below hb⟩
theorem HasE.below {W W' : World} {s : Sl10} {es : List EntV} (h : HasE W s es) (hb : Below W.heap.size W W') : HasE W' s es :=
  ⟨h.n, h.c, h.nl, fun h0 => by
    obtain ⟨b, o, hp, hlt, hc⟩ := h.at' h0
    exact ⟨b, o, hp, Nat.lt_of_lt_of_le hlt hb.size, fun i hi j hj => (hb.cell (p := ⟨b, o + i * 13 + j, none⟩) hlt).trans (hc i hi j hj)⟩, fun e he => (h.all e he).below hb⟩
theorem FitsF.nil (W : World) : FitsF W noFV := ⟨HasI.nil W, HasI.nil W, (fun _ h => by cases h), (fun _ h => by cases h), Nat.zero_le _, Nat.zero_le _⟩
theorem box_below {w w' : World} {b : Nat} {o : Obj} (h : w.heap[b]? = some o) (hb : Below w.heap.size w w') : w'.heap[b]? = some o := (hb.block b (Array.getElem?_eq_some_iff.1 h).1).trans h
theorem box_lt {w : World} {b : Nat} {o : Obj} (h : w.heap[b]? = some o) : b < w.heap.size := (Array.getElem?_eq_some_iff.1 h).1
theorem box_cell {w : World} {b : Nat} {a : Array Value} {t : TypeId} {fr : Nat × Nat} (h : w.heap[b]? = some (.cells a t fr)) (j : Nat) : w.cell? ⟨b, j, none⟩ = a[j]? := by
  unfold World.cell?
  dsimp only
  rw [h]
  rfl


def ConfAt (w : World) (b : Nat) (x : ConfV) : Prop := w.heap[b]? = some (.cells x.arr 26 (0, 0))
theorem ConfAt.cells {w : World} {b : Nat} {x : ConfV} (h : ConfAt w b x) : w.cell? ⟨b, 0, none⟩ = some (.slice x.u.p x.u.n x.u.c) ∧ w.cell? ⟨b, 1, none⟩ = some (.slice x.v.p x.v.n x.v.c) := ⟨box_cell h 0, box_cell h 1⟩

def EntAt (w : World) (b : Nat) (x : EntV) : Prop := w.heap[b]? = some (.cells x.arr 28 (0, 0))
theorem EntAt.cells {w : World} {b : Nat} {x : EntV} (h : EntAt w b x) :
    w.cell? ⟨b, 0, none⟩ = some (.int .i64 x.i) ∧ w.cell? ⟨b, 1, none⟩ = some (.int .i64 x.t) ∧ w.cell? ⟨b, 2, none⟩ = some (.int .i64 x.k) ∧
    w.cell? ⟨b, 3, none⟩ = some (.int .i64 x.c.k) ∧ w.cell? ⟨b, 4, none⟩ = some (.int .i64 x.c.s) ∧ w.cell? ⟨b, 5, none⟩ = some (.int .i64 x.c.q) ∧ w.cell? ⟨b, 6, none⟩ = some (.string x.c.key) ∧
    w.cell? ⟨b, 7, none⟩ = some (.string x.c.old) ∧ w.cell? ⟨b, 8, none⟩ = some (.string x.c.val) ∧ w.cell? ⟨b, 9, none⟩ = some (.string x.c.unt) ∧ w.cell? ⟨b, 10, none⟩ = some (.int .i64 x.c.lim) ∧
    w.cell? ⟨b, 11, none⟩ = some (.slice x.f.u.p x.f.u.n x.f.u.c) ∧ w.cell? ⟨b, 12, none⟩ = some (.slice x.f.v.p x.f.v.n x.f.v.c) :=
  ⟨box_cell h 0, box_cell h 1, box_cell h 2, box_cell h 3, box_cell h 4, box_cell h 5, box_cell h 6, box_cell h 7, box_cell h 8, box_cell h 9, box_cell h 10, box_cell h 11, box_cell h 12⟩

def HardAt (w : World) (b : Nat) (x : Hard10) : Prop := w.heap[b]? = some (.cells x.arr 30 (0, 0))
end Go.Proofs.YtkbbhllchombdaaGreatDoor

namespace Go.Proofs.YtkbbhllchombdaaGreatDoor
open Go.ChangeShapes Go.WideShapes Go.ChangeAt Go.RowKit Go.Deep
section
variable {H : Type} {enc : TypeId × Value → H} {W : World} {spare : Nat → Bool} {held : Bool} {b0 base fuel : Nat}

theorem ints_in10 {a : Option Addr} {n c : Nat} {x : DataW H × List MemPlace} (h : DataW.trod enc Tryz.prog W base spare held fuel 24 [.slice a n c] = some x) (hw : ∀ q ∈ x.1.weights Tryz.prog 24, q ≤ reachBytes) :
    ∃ zs : List Int, zs.length = n ∧ HasI W (.slice a n c) zs ∧ inL zs ∧ n ≤ 17592186044416 := by
  rcases open_ints Tryz.underlying24 Tryz.underlying3 (by kernel_rfl) h with ⟨hcs, _⟩ | ⟨a', l, c', zs, hcs, _, hl, hm, hz, hx, hcell, hwz⟩
  · simp only [List.cons.injEq, Value.slice.injEq, and_true] at hcs
    obtain ⟨rfl, rfl, rfl⟩ := hcs
    exact ⟨[], rfl, HasI.nil W, (fun _ h => by cases h), by omega⟩
  · simp only [List.cons.injEq, Value.slice.injEq, and_true] at hcs
    obtain ⟨rfl, rfl, rfl⟩ := hcs
    have hnz : n ≤ zs.length := by rw [hz]; split <;> omega
    have hlen : (zs.take n).length = n := by rw [List.length_take]; omega
    have hs : n ≤ 17592186044416 := by
      have := hw ((((lits IntKind.i64 (zs.take n)) : List (DataW H)).length + ((lits IntKind.i64 (zs.drop n)) : List (DataW H)).length) * Tryz.prog.bytesOf 3) (by rw [hx]; simp [DataW.weights, Tryz.underlying24])
      rw [show Tryz.prog.bytesOf 3 = 8 by kernel_rfl] at this
      simp only [lits, List.length_map, hlen, reachBytes] at this
      omega
    refine ⟨zs.take n, hlen, ⟨some a', c, by rw [hlen], by rw [hlen]; exact hl, (fun h => by cases h), fun h0 => ?_⟩, fun z hz => ?_, hs⟩
    · rw [hlen] at h0 ⊢
      obtain ⟨b, o, s⟩ := a'
      obtain rfl : s = none := by simpa [Addr.add] using World.cell?_spot (hcell 0 (by omega))
      refine ⟨b, o, rfl, World.block_lt_of_cell? W _ (hcell 0 (by omega)), fun i hi => ?_⟩
      rw [← Go.WideShapes.add_plain, hcell i (by omega)]
      simp [List.getD_eq_getElem?_getD, hi]
    · exact bounds_i64 (hwz z (List.mem_of_mem_take hz))

theorem slice_form10 {t e : TypeId} (ht : Tryz.prog.underlying t = some (.slice e)) {v : Value} {x : DataW H × List MemPlace} (h : DataW.trod enc Tryz.prog W base spare held fuel t [v] = some x) : ∃ a m k, v = .slice a m k := by
  rcases open_slice ht h with ⟨hcs, _⟩ | ⟨a', len, cap, m, k, D, Pl, hcs, _⟩
  · simp at hcs; exact ⟨_, _, _, hcs⟩
  · simp at hcs; exact ⟨_, _, _, hcs⟩

set_option maxRecDepth 100000 in
theorem conf_in10 {cs : List Value} {x : DataW H × List MemPlace} (hlen : cs.length = 2) (h : DataW.trod enc Tryz.prog W base spare held fuel 26 cs = some x) (hw : ∀ q ∈ x.1.weights Tryz.prog 26, q ≤ reachBytes) :
    ∃ A : ConfV, cs = A.arr.toList ∧ FitsF W A := by
  obtain ⟨xs, k', hk, hxy, _, hxl, hf⟩ := DataW.trod_struct Tryz.underlying26 h
  match xs, hxl, cs, hlen with
  | [y0, y1], _, [v0, v1], _ =>
    have g0 := hf 0 _ rfl
    have g1 := hf 1 _ rfl
    simp [show Tryz.prog.cellsOf 24 = 1 by kernel_rfl] at g0 g1
    simp only [List.map_cons, List.map_nil] at hxy
    have hx1 : x.1 = .agg [y0.1, y1.1] := by rw [hxy]
    rw [hx1] at hw
    simp only [DataW.weights, Tryz.underlying26, DataW.weightsEach, List.map_cons, List.map_nil, List.append_nil, List.mem_append] at hw
    obtain ⟨a0, n0, c0, rfl⟩ := slice_form10 Tryz.underlying24 g0
    obtain ⟨a1, n1, c1, rfl⟩ := slice_form10 Tryz.underlying24 g1
    obtain ⟨z0, e0, p0, q0, r0⟩ := ints_in10 g0 fun q hq => hw q (by simp only [hq, true_or])
    obtain ⟨z1, e1, p1, q1, r1⟩ := ints_in10 g1 fun q hq => hw q (by simp only [hq, or_true])
    exact ⟨⟨⟨a0, n0, c0⟩, ⟨a1, n1, c1⟩, ⟨z0, z1⟩⟩, rfl, ⟨p0, p1, q0, q1, by rw [e0]; exact r0, by rw [e1]; exact r1⟩⟩

set_option maxRecDepth 100000 in
theorem cmd_in10 {cs : List Value} {x : DataW H × List MemPlace} (hlen : cs.length = 8) (h : DataW.trod enc Tryz.prog W base spare held fuel 23 cs = some x) (hw : ∀ q ∈ x.1.weights Tryz.prog 23, q ≤ reachBytes) :
    ∃ c : Cmd9, cs = c.arr.toList ∧ Fits9 c := by
  obtain ⟨xs, k', hk, hxy, _, hxl, hf⟩ := DataW.trod_struct Tryz.underlying23 h
  match xs, hxl, cs, hlen with
  | [y0, y1, y2, y3, y4, y5, y6, y7], _, [v0, v1, v2, v3, v4, v5, v6, v7], _ =>
    have g0 := hf 0 _ rfl
    have g1 := hf 1 _ rfl
    have g2 := hf 2 _ rfl
    have g3 := hf 3 _ rfl
    have g4 := hf 4 _ rfl
    have g5 := hf 5 _ rfl
    have g6 := hf 6 _ rfl
    have g7 := hf 7 _ rfl
    simp [show Tryz.prog.cellsOf 9 = 1 by kernel_rfl, show Tryz.prog.cellsOf 3 = 1 by kernel_rfl] at g0 g1 g2 g3 g4 g5 g6 g7
    simp only [List.map_cons, List.map_nil] at hxy
    have hx1 : x.1 = .agg [y0.1, y1.1, y2.1, y3.1, y4.1, y5.1, y6.1, y7.1] := by rw [hxy]
    rw [hx1] at hw
    simp only [DataW.weights, Tryz.underlying23, DataW.weightsEach, List.map_cons, List.map_nil, List.append_nil, List.mem_append] at hw
    obtain ⟨z0, hz0, rfl, w0⟩ := DataW.trod_int Tryz.underlying3 g0
    obtain ⟨z1, hz1, rfl, w1⟩ := DataW.trod_int Tryz.underlying3 g1
    obtain ⟨z2, hz2, rfl, w2⟩ := DataW.trod_int Tryz.underlying3 g2
    obtain ⟨s3, hs3, rfl, _⟩ := DataW.trod_string Tryz.underlying9 g3
    obtain ⟨s4, hs4, rfl, _⟩ := DataW.trod_string Tryz.underlying9 g4
    obtain ⟨s5, hs5, rfl, _⟩ := DataW.trod_string Tryz.underlying9 g5
    obtain ⟨s6, hs6, rfl, _⟩ := DataW.trod_string Tryz.underlying9 g6
    obtain ⟨z7, hz7, rfl, w7⟩ := DataW.trod_int Tryz.underlying3 g7
    cases hz0; cases hz1; cases hz2; cases hs3; cases hs4; cases hs5; cases hs6; cases hz7
    have q3 := hw s3.data.toList.length (by simp [DataW.weights])
    have q4 := hw s4.data.toList.length (by simp [DataW.weights])
    have q5 := hw s5.data.toList.length (by simp [DataW.weights])
    have q6 := hw s6.data.toList.length (by simp [DataW.weights])
    unfold reachBytes at q3 q4 q5 q6
    rw [Array.length_toList] at q3 q4 q5 q6
    exact ⟨⟨z0, z1, z2, s3, s4, s5, s6, z7⟩, rfl, q3, q4, q5, q6, bounds_i64 w0, bounds_i64 w1, bounds_i64 w2, bounds_i64 w7⟩

set_option maxRecDepth 100000 in
theorem ent_in10 {cs : List Value} {x : DataW H × List MemPlace} (hlen : cs.length = 13) (h : DataW.trod enc Tryz.prog W base spare held fuel 28 cs = some x) (hw : ∀ q ∈ x.1.weights Tryz.prog 28, q ≤ reachBytes) :
    ∃ A : EntV, cs = A.arr.toList ∧ FitsE W A := by
  obtain ⟨xs, k', hk, hxy, _, hxl, hf⟩ := DataW.trod_struct Tryz.underlying28 h
  match xs, hxl, cs, hlen with
  | [y0, y1, y2, y3, y4], _, [v0, v1, v2, v3, v4, v5, v6, v7, v8, v9, v10, v11, v12], _ =>
    have g0 := hf 0 _ rfl
    have g1 := hf 1 _ rfl
    have g2 := hf 2 _ rfl
    have g3 := hf 3 _ rfl
    have g4 := hf 4 _ rfl
    simp [show Tryz.prog.cellsOf 23 = 8 by kernel_rfl, show Tryz.prog.cellsOf 3 = 1 by kernel_rfl, show Tryz.prog.cellsOf 26 = 2 by kernel_rfl] at g0 g1 g2 g3 g4
    simp only [List.map_cons, List.map_nil] at hxy
    have hx1 : x.1 = .agg [y0.1, y1.1, y2.1, y3.1, y4.1] := by rw [hxy]
    rw [hx1] at hw
    simp only [DataW.weights, Tryz.underlying28, DataW.weightsEach, List.map_cons, List.map_nil, List.append_nil, List.mem_append] at hw
    obtain ⟨z0, hz0, rfl, w0⟩ := DataW.trod_int Tryz.underlying3 g0
    obtain ⟨z1, hz1, rfl, w1⟩ := DataW.trod_int Tryz.underlying3 g1
    obtain ⟨z2, hz2, rfl, w2⟩ := DataW.trod_int Tryz.underlying3 g2
    cases hz0; cases hz1; cases hz2
    obtain ⟨c, hc, fc⟩ := cmd_in10 rfl g3 fun q hq => hw q (by simp only [hq, true_or, or_true])
    obtain ⟨f, hff, ff⟩ := conf_in10 rfl g4 fun q hq => hw q (by simp only [hq, or_true])
    simp only [Cmd9.arr, List.cons.injEq, and_true] at hc
    simp only [ConfV.arr, List.cons.injEq, and_true] at hff
    obtain ⟨rfl, rfl, rfl, rfl, rfl, rfl, rfl, rfl⟩ := hc
    obtain ⟨rfl, rfl⟩ := hff
    exact ⟨⟨z0, z1, z2, c, f⟩, rfl, ⟨bounds_i64 w0, bounds_i64 w1, bounds_i64 w2, fc, ff⟩⟩

end
end Go.Proofs.YtkbbhllchombdaaGreatDoor
