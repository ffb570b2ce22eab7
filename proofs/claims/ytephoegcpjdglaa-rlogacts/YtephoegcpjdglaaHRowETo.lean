import Derived.Test.YtephoegcpjdglaaEnQTo
import Derived.Test.YtephoegcpjdglaaIRow
namespace Go.Proofs.Ytephoegcpjdglaa
open Go.RowKit
theorem HasI.at {w : World} {p : Option Addr} {n c : Nat} {xs : List Int} (h : HasI w (.slice p n c) xs) {j : Nat} (hj : j < n) : ∃ b o, p = some ⟨b, o, none⟩ ∧ b < w.heap.size ∧ w.cell? ⟨b, o + j, none⟩ = some (.int .i64 (xs.getD j 0)) := by
  obtain ⟨q, d, hv, _, _, hc⟩ := h
  simp only [Value.slice.injEq] at hv
  obtain ⟨rfl, rfl, rfl⟩ := hv
  obtain ⟨b, o, hp, hlt, hcl⟩ := hc (by omega)
  exact ⟨b, o, hp, hlt, hcl j hj⟩
theorem HasI.len {w : World} {p : Option Addr} {n c : Nat} {xs : List Int} (h : HasI w (.slice p n c) xs) : xs.length = n ∧ n ≤ c ∧ (p = none → c = 0) := by
  obtain ⟨q, d, hv, h1, h2, _⟩ := h
  simp only [Value.slice.injEq] at hv
  obtain ⟨rfl, rfl, rfl⟩ := hv
  exact ⟨rfl, h1, h2⟩

structure Sl10 where
  p : Option Addr
  n : Nat
  c : Nat
def nilS10 : Sl10 := ⟨none, 0, 0⟩

structure ConfV where
  u : Sl10
  v : Sl10
  f : Conf10
def noFV : ConfV := ⟨nilS10, nilS10, noF10⟩
def ConfV.arr (x : ConfV) : Array Value := #[.slice x.u.p x.u.n x.u.c, .slice x.v.p x.v.n x.v.c]
structure EntV where
  i : Int
  t : Int
  k : Int
  c : Cmd9
  f : ConfV
def EntV.e (x : EntV) : Ent10 := ⟨x.i, x.t, x.k, x.c, x.f.f⟩
def noEV : EntV := ⟨0, 0, 0, zeroC9, noFV⟩
def EntV.arr (x : EntV) : Array Value := #[.int .i64 x.i, .int .i64 x.t, .int .i64 x.k, .int .i64 x.c.k, .int .i64 x.c.s, .int .i64 x.c.q, .string x.c.key, .string x.c.old, .string x.c.val, .string x.c.unt, .int .i64 x.c.lim, .slice x.f.u.p x.f.u.n x.f.u.c, .slice x.f.v.p x.f.v.n x.f.v.c]
structure FitsF (W : World) (x : ConfV) : Prop where
  u : HasI W (.slice x.u.p x.u.n x.u.c) x.f.vs
  v : HasI W (.slice x.v.p x.v.n x.v.c) x.f.ls
  iu : inL x.f.vs
  iv : inL x.f.ls
  lu : x.f.vs.length ≤ 17592186044416
  lv : x.f.ls.length ≤ 17592186044416
structure FitsE (W : World) (x : EntV) : Prop where
  i : inI x.i
  t : inI x.t
  k : inI x.k
  c : Fits9 x.c
  f : FitsF W x.f
structure HasE (W : World) (s : Sl10) (es : List EntV) : Prop where
  n : es.length = s.n
  c : s.n ≤ s.c
  nl : s.p = none → s.c = 0
  at' : 0 < s.n → ∃ b o, s.p = some ⟨b, o, none⟩ ∧ b < W.heap.size ∧ ∀ i, i < s.n → ∀ j, j < 13 → W.cell? ⟨b, o + i * 13 + j, none⟩ = (es.getD i noEV).arr[j]?
  all : ∀ e ∈ es, FitsE W e
theorem FitsF.below {W W' : World} {x : ConfV} (h : FitsF W x) (hb : Below W.heap.size W W') : FitsF W' x :=
  ⟨h.u.below hb (Nat.le_refl _), h.v.below hb (Nat.le_refl _), h.iu, h.iv, h.lu, h.lv⟩
theorem FitsE.below {W W' : World} {x : EntV} (h : FitsE W x) (hb : Below W.heap.size W W') : FitsE W' x := ⟨h.i, h.t, h.k, h.c, h.f.below hb⟩
theorem HasE.below {W W' : World} {s : Sl10} {es : List EntV} (h : HasE W s es) (hb : Below W.heap.size W W') : HasE W' s es :=
  ⟨h.n, h.c, h.nl, fun h0 => by
    obtain ⟨b, o, hp, hlt, hc⟩ := h.at' h0
    exact ⟨b, o, hp, Nat.lt_of_lt_of_le hlt hb.size, fun i hi j hj => (hb.cell (p := ⟨b, o + i * 13 + j, none⟩) hlt).trans (hc i hi j hj)⟩, fun e he => (h.all e he).below hb⟩
theorem FitsF.nil (W : World) : FitsF W noFV := ⟨HasI.nil W, HasI.nil W, (fun _ h => by cases h), (fun _ h => by cases h), Nat.zero_le _, Nat.zero_le _⟩
theorem HasE.nil (W : World) : HasE W nilS10 [] := ⟨rfl, Nat.le_refl _, fun _ => rfl, fun h => absurd h (Nat.lt_irrefl 0), fun _ h => by cases h⟩
theorem noEV_e : noEV.e = noE10 := rfl
theorem box_below {w w' : World} {b : Nat} {o : Obj} (h : w.heap[b]? = some o) (hb : Below w.heap.size w w') : w'.heap[b]? = some o := (hb.block b (Array.getElem?_eq_some_iff.1 h).1).trans h
theorem box_lt {w : World} {b : Nat} {o : Obj} (h : w.heap[b]? = some o) : b < w.heap.size := (Array.getElem?_eq_some_iff.1 h).1
theorem box_cell {w : World} {b : Nat} {a : Array Value} {t : TypeId} {fr : Nat × Nat} (h : w.heap[b]? = some (.cells a t fr)) (j : Nat) : w.cell? ⟨b, j, none⟩ = a[j]? := by
  unfold World.cell?
  dsimp only
  rw [h]
  rfl


def ConfAt (w : World) (b : Nat) (x : ConfV) : Prop := w.heap[b]? = some (.cells x.arr 49 (0, 0))
theorem ConfAt.cells {w : World} {b : Nat} {x : ConfV} (h : ConfAt w b x) : w.cell? ⟨b, 0, none⟩ = some (.slice x.u.p x.u.n x.u.c) ∧ w.cell? ⟨b, 1, none⟩ = some (.slice x.v.p x.v.n x.v.c) := ⟨box_cell h 0, box_cell h 1⟩

def EntAt (w : World) (b : Nat) (x : EntV) : Prop := w.heap[b]? = some (.cells x.arr 51 (0, 0))
theorem EntAt.cells {w : World} {b : Nat} {x : EntV} (h : EntAt w b x) :
    w.cell? ⟨b, 0, none⟩ = some (.int .i64 x.i) ∧ w.cell? ⟨b, 1, none⟩ = some (.int .i64 x.t) ∧ w.cell? ⟨b, 2, none⟩ = some (.int .i64 x.k) ∧
    w.cell? ⟨b, 3, none⟩ = some (.int .i64 x.c.k) ∧ w.cell? ⟨b, 4, none⟩ = some (.int .i64 x.c.s) ∧ w.cell? ⟨b, 5, none⟩ = some (.int .i64 x.c.q) ∧ w.cell? ⟨b, 6, none⟩ = some (.string x.c.key) ∧
    w.cell? ⟨b, 7, none⟩ = some (.string x.c.old) ∧ w.cell? ⟨b, 8, none⟩ = some (.string x.c.val) ∧ w.cell? ⟨b, 9, none⟩ = some (.string x.c.unt) ∧ w.cell? ⟨b, 10, none⟩ = some (.int .i64 x.c.lim) ∧
    w.cell? ⟨b, 11, none⟩ = some (.slice x.f.u.p x.f.u.n x.f.u.c) ∧ w.cell? ⟨b, 12, none⟩ = some (.slice x.f.v.p x.f.v.n x.f.v.c) :=
  ⟨box_cell h 0, box_cell h 1, box_cell h 2, box_cell h 3, box_cell h 4, box_cell h 5, box_cell h 6, box_cell h 7, box_cell h 8, box_cell h 9, box_cell h 10, box_cell h 11, box_cell h 12⟩

end Go.Proofs.Ytephoegcpjdglaa

namespace Go.Proofs.Ytephoegcpjdglaa
open Go.ChangeShapes Go.WideShapes Go.ChangeAt Go.RowKit Go.Deep
section
variable {H : Type} {enc : TypeId × Value → H} {W : World} {spare : Nat → Bool} {held : Bool} {b0 base fuel : Nat}

theorem ints_in10 {a : Option Addr} {n c : Nat} {x : DataW H × List MemPlace} (h : DataW.trod enc Try.prog W base spare held fuel 47 [.slice a n c] = some x) (hw : ∀ q ∈ x.1.weights Try.prog 47, q ≤ reachBytes) :
    ∃ zs : List Int, zs.length = n ∧ HasI W (.slice a n c) zs ∧ inL zs ∧ n ≤ 17592186044416 := by
  rcases open_ints Try.underlying47 Try.underlying3 (by kernel_rfl) h with ⟨hcs, _⟩ | ⟨a', l, c', zs, hcs, _, hl, hm, hz, hx, hcell, hwz⟩
  · simp only [List.cons.injEq, Value.slice.injEq, and_true] at hcs
    obtain ⟨rfl, rfl, rfl⟩ := hcs
    exact ⟨[], rfl, HasI.nil W, (fun _ h => by cases h), by omega⟩
  · simp only [List.cons.injEq, Value.slice.injEq, and_true] at hcs
    obtain ⟨rfl, rfl, rfl⟩ := hcs
    have hnz : n ≤ zs.length := by rw [hz]; split <;> omega
    have hlen : (zs.take n).length = n := by rw [List.length_take]; omega
    have hs : n ≤ 17592186044416 := by
      have := hw ((((lits IntKind.i64 (zs.take n)) : List (DataW H)).length + ((lits IntKind.i64 (zs.drop n)) : List (DataW H)).length) * Try.prog.bytesOf 3) (by rw [hx]; simp [DataW.weights, Try.underlying47])
      rw [show Try.prog.bytesOf 3 = 8 by kernel_rfl] at this
      simp only [lits, List.length_map, hlen, reachBytes] at this
      omega
    refine ⟨zs.take n, hlen, ⟨some a', c, by rw [hlen], by rw [hlen]; exact hl, (fun h => by cases h), fun h0 => ?_⟩, fun z hz => ?_, hs⟩
    · rw [hlen] at h0 ⊢
      obtain ⟨b, o, s⟩ := a'
      obtain rfl : s = none := by simpa [Addr.add] using World.cell?_spot (hcell 0 (by omega))
      refine ⟨b, o, rfl, World.block_lt_of_cell? W _ (hcell 0 (by omega)), fun i hi => ?_⟩
      rw [← Go.WideShapes.add_plain, hcell i (by omega)]
      simp [List.getD_eq_getElem?_getD, hi]
    · exact bounds_i64 (hwz z (List.mem_of_mem_take hz))

theorem slice_form10 {t e : TypeId} (ht : Try.prog.underlying t = some (.slice e)) {v : Value} {x : DataW H × List MemPlace} (h : DataW.trod enc Try.prog W base spare held fuel t [v] = some x) : ∃ a m k, v = .slice a m k := by
  rcases open_slice ht h with ⟨hcs, _⟩ | ⟨a', len, cap, m, k, D, Pl, hcs, _⟩
  · simp at hcs; exact ⟨_, _, _, hcs⟩
  · simp at hcs; exact ⟨_, _, _, hcs⟩

set_option maxRecDepth 100000 in
theorem conf_in10 {cs : List Value} {x : DataW H × List MemPlace} (hlen : cs.length = 2) (h : DataW.trod enc Try.prog W base spare held fuel 49 cs = some x) (hw : ∀ q ∈ x.1.weights Try.prog 49, q ≤ reachBytes) :
    ∃ A : ConfV, cs = A.arr.toList ∧ FitsF W A := by
  obtain ⟨xs, k', hk, hxy, _, hxl, hf⟩ := DataW.trod_struct Try.underlying49 h
  match xs, hxl, cs, hlen with
  | [y0, y1], _, [v0, v1], _ =>
    have g0 := hf 0 _ rfl
    have g1 := hf 1 _ rfl
    simp [show Try.prog.cellsOf 47 = 1 by kernel_rfl] at g0 g1
    simp only [List.map_cons, List.map_nil] at hxy
    have hx1 : x.1 = .agg [y0.1, y1.1] := by rw [hxy]
    rw [hx1] at hw
    simp only [DataW.weights, Try.underlying49, DataW.weightsEach, List.map_cons, List.map_nil, List.append_nil, List.mem_append] at hw
    obtain ⟨a0, n0, c0, rfl⟩ := slice_form10 Try.underlying47 g0
    obtain ⟨a1, n1, c1, rfl⟩ := slice_form10 Try.underlying47 g1
    obtain ⟨z0, e0, p0, q0, r0⟩ := ints_in10 g0 fun q hq => hw q (by simp only [hq, true_or])
    obtain ⟨z1, e1, p1, q1, r1⟩ := ints_in10 g1 fun q hq => hw q (by simp only [hq, or_true])
    exact ⟨⟨⟨a0, n0, c0⟩, ⟨a1, n1, c1⟩, ⟨z0, z1⟩⟩, rfl, ⟨p0, p1, q0, q1, by rw [e0]; exact r0, by rw [e1]; exact r1⟩⟩

set_option maxRecDepth 100000 in
theorem cmd_in10 {cs : List Value} {x : DataW H × List MemPlace} (hlen : cs.length = 8) (h : DataW.trod enc Try.prog W base spare held fuel 46 cs = some x) (hw : ∀ q ∈ x.1.weights Try.prog 46, q ≤ reachBytes) :
    ∃ c : Cmd9, cs = c.arr.toList ∧ Fits9 c := by
  obtain ⟨xs, k', hk, hxy, _, hxl, hf⟩ := DataW.trod_struct Try.underlying46 h
  match xs, hxl, cs, hlen with
  | [y0, y1, y2, y3, y4, y5, y6, y7], _, [v0, v1, v2, v3, v4, v5, v6, v7], _ =>
    have g0 := hf 0 _ rfl
    have g1 := hf 1 _ rfl
    have g2 := hf 2 _ rfl
    have g3 := hf 3 _ rfl
    have g4 := hf 4 _ rfl
    have g5 := hf 5 _ rfl
    have g6 := hf 6 _ rfl
    have g7 := hf 7 _ rfl
    simp [show Try.prog.cellsOf 9 = 1 by kernel_rfl, show Try.prog.cellsOf 3 = 1 by kernel_rfl] at g0 g1 g2 g3 g4 g5 g6 g7
    simp only [List.map_cons, List.map_nil] at hxy
    have hx1 : x.1 = .agg [y0.1, y1.1, y2.1, y3.1, y4.1, y5.1, y6.1, y7.1] := by rw [hxy]
    rw [hx1] at hw
    simp only [DataW.weights, Try.underlying46, DataW.weightsEach, List.map_cons, List.map_nil, List.append_nil, List.mem_append] at hw
    obtain ⟨z0, hz0, rfl, w0⟩ := DataW.trod_int Try.underlying3 g0
    obtain ⟨z1, hz1, rfl, w1⟩ := DataW.trod_int Try.underlying3 g1
    obtain ⟨z2, hz2, rfl, w2⟩ := DataW.trod_int Try.underlying3 g2
    obtain ⟨s3, hs3, rfl, _⟩ := DataW.trod_string Try.underlying9 g3
    obtain ⟨s4, hs4, rfl, _⟩ := DataW.trod_string Try.underlying9 g4
    obtain ⟨s5, hs5, rfl, _⟩ := DataW.trod_string Try.underlying9 g5
    obtain ⟨s6, hs6, rfl, _⟩ := DataW.trod_string Try.underlying9 g6
    obtain ⟨z7, hz7, rfl, w7⟩ := DataW.trod_int Try.underlying3 g7
    cases hz0; cases hz1; cases hz2; cases hs3; cases hs4; cases hs5; cases hs6; cases hz7
    have q3 := hw s3.data.toList.length (by simp [DataW.weights])
    have q4 := hw s4.data.toList.length (by simp [DataW.weights])
    have q5 := hw s5.data.toList.length (by simp [DataW.weights])
    have q6 := hw s6.data.toList.length (by simp [DataW.weights])
    unfold reachBytes at q3 q4 q5 q6
    rw [Array.length_toList] at q3 q4 q5 q6
    exact ⟨⟨z0, z1, z2, s3, s4, s5, s6, z7⟩, rfl, q3, q4, q5, q6, bounds_i64 w0, bounds_i64 w1, bounds_i64 w2, bounds_i64 w7⟩

set_option maxRecDepth 100000 in
theorem ent_in10 {cs : List Value} {x : DataW H × List MemPlace} (hlen : cs.length = 13) (h : DataW.trod enc Try.prog W base spare held fuel 51 cs = some x) (hw : ∀ q ∈ x.1.weights Try.prog 51, q ≤ reachBytes) :
    ∃ A : EntV, cs = A.arr.toList ∧ FitsE W A := by
  obtain ⟨xs, k', hk, hxy, _, hxl, hf⟩ := DataW.trod_struct Try.underlying51 h
  match xs, hxl, cs, hlen with
  | [y0, y1, y2, y3, y4], _, [v0, v1, v2, v3, v4, v5, v6, v7, v8, v9, v10, v11, v12], _ =>
    have g0 := hf 0 _ rfl
    have g1 := hf 1 _ rfl
    have g2 := hf 2 _ rfl
    have g3 := hf 3 _ rfl
    have g4 := hf 4 _ rfl
    simp [show Try.prog.cellsOf 46 = 8 by kernel_rfl, show Try.prog.cellsOf 3 = 1 by kernel_rfl, show Try.prog.cellsOf 49 = 2 by kernel_rfl] at g0 g1 g2 g3 g4
    simp only [List.map_cons, List.map_nil] at hxy
    have hx1 : x.1 = .agg [y0.1, y1.1, y2.1, y3.1, y4.1] := by rw [hxy]
    rw [hx1] at hw
    simp only [DataW.weights, Try.underlying51, DataW.weightsEach, List.map_cons, List.map_nil, List.append_nil, List.mem_append] at hw
    obtain ⟨z0, hz0, rfl, w0⟩ := DataW.trod_int Try.underlying3 g0
    obtain ⟨z1, hz1, rfl, w1⟩ := DataW.trod_int Try.underlying3 g1
    obtain ⟨z2, hz2, rfl, w2⟩ := DataW.trod_int Try.underlying3 g2
    cases hz0; cases hz1; cases hz2
    obtain ⟨c, hc, fc⟩ := cmd_in10 rfl g3 fun q hq => hw q (by simp only [hq, true_or, or_true])
    obtain ⟨f, hff, ff⟩ := conf_in10 rfl g4 fun q hq => hw q (by simp only [hq, or_true])
    simp only [Cmd9.arr, List.cons.injEq, and_true] at hc
    simp only [ConfV.arr, List.cons.injEq, and_true] at hff
    obtain ⟨rfl, rfl, rfl, rfl, rfl, rfl, rfl, rfl⟩ := hc
    obtain ⟨rfl, rfl⟩ := hff
    exact ⟨⟨z0, z1, z2, c, f⟩, rfl, ⟨bounds_i64 w0, bounds_i64 w1, bounds_i64 w2, fc, ff⟩⟩

set_option maxRecDepth 100000 in
theorem ents_in10 {a : Option Addr} {n c : Nat} {x : DataW H × List MemPlace} (h : DataW.trod enc Try.prog W base spare held fuel 22 [.slice a n c] = some x) (hw : ∀ q ∈ x.1.weights Try.prog 22, q ≤ reachBytes) :
    ∃ zs : List EntV, HasE W ⟨a, n, c⟩ zs ∧ (n : Int) ≤ 9223372036854775807 := by
  rcases open_slice Try.underlying22 h with ⟨hcs, _⟩ | ⟨a', len, cap, m, k, D, Pl, hcs, hb, hl, hm, hmm, rfl, hx⟩
  · simp only [List.cons.injEq, Value.slice.injEq, and_true] at hcs
    obtain ⟨rfl, rfl, rfl⟩ := hcs
    exact ⟨[], HasE.nil W, by omega⟩
  · simp only [List.cons.injEq, Value.slice.injEq, and_true] at hcs
    obtain ⟨rfl, rfl, rfl⟩ := hcs
    have hlm : n ≤ m := by rw [hmm]; split <;> omega
    rw [show Try.prog.cellsOf 51 = 13 by kernel_rfl] at hx
    have each : ∀ i, i < n → ∃ A : EntV, (∀ j, j < 13 → W.cell? ((a'.add (i * 13)).add j) = A.arr.toList[j]?) ∧ FitsE W A := by
      intro i hi
      obtain ⟨cs', h1, h2⟩ := hx i (by omega)
      obtain ⟨_, hlen, hcell⟩ := World.cells?_some h1
      obtain ⟨A, rfl, hA⟩ := ent_in10 hlen h2 fun q hq => hw q (by
        simp only [DataW.weights, Try.underlying22, List.mem_cons, List.mem_append]
        exact .inr (.inl (weights_allP (List.mem_map.2 ⟨i, List.mem_range.2 hi, rfl⟩) q hq)))
      exact ⟨A, fun j hj => hcell j hj, hA⟩
    have each' : ∀ i, ∃ A : EntV, i < n → (∀ j, j < 13 → W.cell? ((a'.add (i * 13)).add j) = A.arr.toList[j]?) ∧ FitsE W A := fun i => by
      by_cases hi : i < n
      · obtain ⟨A, hA⟩ := each i hi
        exact ⟨A, fun _ => hA⟩
      · exact ⟨noEV, fun h => absurd h hi⟩
    obtain ⟨A, hA⟩ := Classical.axiomOfChoice each'
    have hlen : ((List.range n).map A).length = n := by simp
    have hget : ∀ i, i < n → ((List.range n).map A).getD i noEV = A i := fun i hi => by simp [List.getD_eq_getElem?_getD, hi]
    refine ⟨(List.range n).map A, ⟨hlen, hl, (fun h => by cases h), fun h0 => ?_, fun x hx => ?_⟩, by unfold maxLen at hm; omega⟩
    · dsimp only at h0 ⊢
      obtain ⟨b, o, s⟩ := a'
      have h00 := (hA 0 h0).1 0 (by omega)
      obtain rfl : s = none := by simpa [Addr.add] using World.cell?_spot h00
      refine ⟨b, o, rfl, World.block_lt_of_cell? W _ h00, fun i hi j hj => ?_⟩
      have h1 := (hA i hi).1 j hj
      rw [hget i hi]
      simp only [Go.WideShapes.add_plain] at h1
      rw [h1, Array.getElem?_toList]
    · obtain ⟨i, hi, rfl⟩ := List.mem_map.1 hx
      exact (hA i (List.mem_range.1 hi)).2

end
end Go.Proofs.Ytephoegcpjdglaa
