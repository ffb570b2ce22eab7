/-
  From a row's own words to this proof's: members, entries, snapshots and messages that came in.
-/
import Derived.Test.YtnbaoimjcaeeaabEnV
namespace Go.Proofs.Ytnbaoimjcaeeaab
open Go.ChangeShapes Go.WideShapes Go.ChangeAt Go.RowKit Go.Deep

section
variable {H : Type} {enc : TypeId × Value → H} {W : World} {spare : Nat → Bool} {held : Bool} {b0 base fuel : Nat}

theorem ints_in10 {a : Option Addr} {n c : Nat} {x : DataW H × List MemPlace} (h : DataW.trod enc Try.prog W base spare held fuel 22 [.slice a n c] = some x) (hw : ∀ q ∈ x.1.weights Try.prog 22, q ≤ reachBytes) :
    ∃ zs : List Int, zs.length = n ∧ HasI W (.slice a n c) zs ∧ inL zs ∧ n ≤ 17592186044416 := by
  rcases open_ints Try.underlying22 Try.underlying3 (by kernel_rfl) h with ⟨hcs, _⟩ | ⟨a', l, c', zs, hcs, _, hl, hm, hz, hx, hcell, hwz⟩
  · simp only [List.cons.injEq, Value.slice.injEq, and_true] at hcs
    obtain ⟨rfl, rfl, rfl⟩ := hcs
    exact ⟨[], rfl, HasI.nil W, (fun _ h => by cases h), by omega⟩
  · simp only [List.cons.injEq, Value.slice.injEq, and_true] at hcs
    obtain ⟨rfl, rfl, rfl⟩ := hcs
    have hnz : n ≤ zs.length := by rw [hz]; split <;> omega
    have hlen : (zs.take n).length = n := by rw [List.length_take]; omega
    have hs : n ≤ 17592186044416 := by
      have := hw ((((lits IntKind.i64 (zs.take n)) : List (DataW H)).length + ((lits IntKind.i64 (zs.drop n)) : List (DataW H)).length) * Try.prog.bytesOf 3) (by rw [hx]; simp [DataW.weights, Try.underlying22])
      rw [show Try.prog.bytesOf 3 = 8 by kernel_rfl] at this
      simp only [lits, List.length_map, hlen, reachBytes] at this
      omega
    refine ⟨zs.take n, hlen, ⟨some a', c, by rw [hlen], by rw [hlen]; exact hl, (fun h => by cases h), fun h0 => ?_⟩, fun z hz => ?_, hs⟩
    · rw [hlen] at h0 ⊢
      obtain ⟨b, o, s⟩ := a'
      obtain rfl : s = none := by simpa [Addr.add] using World.cell?_spot (hcell 0 (by omega))
      refine ⟨b, o, rfl, World.block_lt_of_cell? W _ (hcell 0 (by omega)), fun i hi => ?_⟩
      rw [← Go.WideShapes.add_plain, hcell i (by omega)]
      simp [List.getD_eq_getElem?_getD, hi]
    · exact bounds_i64 (hwz z (List.mem_of_mem_take hz))

theorem slice_form10 {t e : TypeId} (ht : Try.prog.underlying t = some (.slice e)) {v : Value} {x : DataW H × List MemPlace} (h : DataW.trod enc Try.prog W base spare held fuel t [v] = some x) : ∃ a m k, v = .slice a m k := by
  rcases open_slice ht h with ⟨hcs, _⟩ | ⟨a', len, cap, m, k, D, Pl, hcs, _⟩
  · simp at hcs; exact ⟨_, _, _, hcs⟩
  · simp at hcs; exact ⟨_, _, _, hcs⟩

set_option maxRecDepth 100000 in
theorem conf_in10 {cs : List Value} {x : DataW H × List MemPlace} (hlen : cs.length = 2) (h : DataW.trod enc Try.prog W base spare held fuel 24 cs = some x) (hw : ∀ q ∈ x.1.weights Try.prog 24, q ≤ reachBytes) :
    ∃ A : ConfV, cs = A.arr.toList ∧ FitsF W A := by
  obtain ⟨xs, k', hk, hxy, _, hxl, hf⟩ := DataW.trod_struct Try.underlying24 h
  match xs, hxl, cs, hlen with
  | [y0, y1], _, [v0, v1], _ =>
    have g0 := hf 0 _ rfl
    have g1 := hf 1 _ rfl
    simp [show Try.prog.cellsOf 22 = 1 by kernel_rfl] at g0 g1
    simp only [List.map_cons, List.map_nil] at hxy
    have hx1 : x.1 = .agg [y0.1, y1.1] := by rw [hxy]
    rw [hx1] at hw
    simp only [DataW.weights, Try.underlying24, DataW.weightsEach, List.map_cons, List.map_nil, List.append_nil, List.mem_append] at hw
    obtain ⟨a0, n0, c0, rfl⟩ := slice_form10 Try.underlying22 g0
    obtain ⟨a1, n1, c1, rfl⟩ := slice_form10 Try.underlying22 g1
    obtain ⟨z0, e0, p0, q0, r0⟩ := ints_in10 g0 fun q hq => hw q (by simp only [hq, true_or])
    obtain ⟨z1, e1, p1, q1, r1⟩ := ints_in10 g1 fun q hq => hw q (by simp only [hq, or_true])
    exact ⟨⟨⟨a0, n0, c0⟩, ⟨a1, n1, c1⟩, ⟨z0, z1⟩⟩, rfl, ⟨p0, p1, q0, q1, by rw [e0]; exact r0, by rw [e1]; exact r1⟩⟩

set_option maxRecDepth 100000 in
theorem cmd_in10 {cs : List Value} {x : DataW H × List MemPlace} (hlen : cs.length = 8) (h : DataW.trod enc Try.prog W base spare held fuel 29 cs = some x) (hw : ∀ q ∈ x.1.weights Try.prog 29, q ≤ reachBytes) :
    ∃ c : Cmd9, cs = c.arr.toList ∧ Fits9 c := by
  obtain ⟨xs, k', hk, hxy, _, hxl, hf⟩ := DataW.trod_struct Try.underlying29 h
  match xs, hxl, cs, hlen with
  | [y0, y1, y2, y3, y4, y5, y6, y7], _, [v0, v1, v2, v3, v4, v5, v6, v7], _ =>
    have g0 := hf 0 _ rfl
    have g1 := hf 1 _ rfl
    have g2 := hf 2 _ rfl
    have g3 := hf 3 _ rfl
    have g4 := hf 4 _ rfl
    have g5 := hf 5 _ rfl
    have g6 := hf 6 _ rfl
    have g7 := hf 7 _ rfl
    simp [show Try.prog.cellsOf 9 = 1 by kernel_rfl, show Try.prog.cellsOf 3 = 1 by kernel_rfl] at g0 g1 g2 g3 g4 g5 g6 g7
    simp only [List.map_cons, List.map_nil] at hxy
    have hx1 : x.1 = .agg [y0.1, y1.1, y2.1, y3.1, y4.1, y5.1, y6.1, y7.1] := by rw [hxy]
    rw [hx1] at hw
    simp only [DataW.weights, Try.underlying29, DataW.weightsEach, List.map_cons, List.map_nil, List.append_nil, List.mem_append] at hw
    obtain ⟨z0, hz0, rfl, w0⟩ := DataW.trod_int Try.underlying3 g0
    obtain ⟨z1, hz1, rfl, w1⟩ := DataW.trod_int Try.underlying3 g1
    obtain ⟨z2, hz2, rfl, w2⟩ := DataW.trod_int Try.underlying3 g2
    obtain ⟨s3, hs3, rfl, _⟩ := DataW.trod_string Try.underlying9 g3
    obtain ⟨s4, hs4, rfl, _⟩ := DataW.trod_string Try.underlying9 g4
    obtain ⟨s5, hs5, rfl, _⟩ := DataW.trod_string Try.underlying9 g5
    obtain ⟨s6, hs6, rfl, _⟩ := DataW.trod_string Try.underlying9 g6
    obtain ⟨z7, hz7, rfl, w7⟩ := DataW.trod_int Try.underlying3 g7
    cases hz0; cases hz1; cases hz2; cases hs3; cases hs4; cases hs5; cases hs6; cases hz7
    have q3 := hw s3.data.toList.length (by simp [DataW.weights])
    have q4 := hw s4.data.toList.length (by simp [DataW.weights])
    have q5 := hw s5.data.toList.length (by simp [DataW.weights])
    have q6 := hw s6.data.toList.length (by simp [DataW.weights])
    unfold reachBytes at q3 q4 q5 q6
    rw [Array.length_toList] at q3 q4 q5 q6
    exact ⟨⟨z0, z1, z2, s3, s4, s5, s6, z7⟩, rfl, q3, q4, q5, q6, bounds_i64 w0, bounds_i64 w1, bounds_i64 w2, bounds_i64 w7⟩

set_option maxRecDepth 100000 in
theorem ent_in10 {cs : List Value} {x : DataW H × List MemPlace} (hlen : cs.length = 13) (h : DataW.trod enc Try.prog W base spare held fuel 31 cs = some x) (hw : ∀ q ∈ x.1.weights Try.prog 31, q ≤ reachBytes) :
    ∃ A : EntV, cs = A.arr.toList ∧ FitsE W A := by
  obtain ⟨xs, k', hk, hxy, _, hxl, hf⟩ := DataW.trod_struct Try.underlying31 h
  match xs, hxl, cs, hlen with
  | [y0, y1, y2, y3, y4], _, [v0, v1, v2, v3, v4, v5, v6, v7, v8, v9, v10, v11, v12], _ =>
    have g0 := hf 0 _ rfl
    have g1 := hf 1 _ rfl
    have g2 := hf 2 _ rfl
    have g3 := hf 3 _ rfl
    have g4 := hf 4 _ rfl
    simp [show Try.prog.cellsOf 29 = 8 by kernel_rfl, show Try.prog.cellsOf 3 = 1 by kernel_rfl, show Try.prog.cellsOf 24 = 2 by kernel_rfl] at g0 g1 g2 g3 g4
    simp only [List.map_cons, List.map_nil] at hxy
    have hx1 : x.1 = .agg [y0.1, y1.1, y2.1, y3.1, y4.1] := by rw [hxy]
    rw [hx1] at hw
    simp only [DataW.weights, Try.underlying31, DataW.weightsEach, List.map_cons, List.map_nil, List.append_nil, List.mem_append] at hw
    obtain ⟨z0, hz0, rfl, w0⟩ := DataW.trod_int Try.underlying3 g0
    obtain ⟨z1, hz1, rfl, w1⟩ := DataW.trod_int Try.underlying3 g1
    obtain ⟨z2, hz2, rfl, w2⟩ := DataW.trod_int Try.underlying3 g2
    cases hz0; cases hz1; cases hz2
    obtain ⟨c, hc, fc⟩ := cmd_in10 rfl g3 fun q hq => hw q (by simp only [hq, true_or, or_true])
    obtain ⟨f, hff, ff⟩ := conf_in10 rfl g4 fun q hq => hw q (by simp only [hq, or_true])
    simp only [Cmd9.arr, List.cons.injEq, and_true] at hc
    simp only [ConfV.arr, List.cons.injEq, and_true] at hff
    obtain ⟨rfl, rfl, rfl, rfl, rfl, rfl, rfl, rfl⟩ := hc
    obtain ⟨rfl, rfl⟩ := hff
    exact ⟨⟨z0, z1, z2, c, f⟩, rfl, ⟨bounds_i64 w0, bounds_i64 w1, bounds_i64 w2, fc, ff⟩⟩

set_option maxRecDepth 100000 in
theorem open_conf10 {v : Value} {d : DataW H} {p : List MemPlace} (hv : Value.okWide Try.prog W .any b0 24 v) (h : DataW.Trod enc Try.prog W base spare held 24 v d p) (hw : ∀ q ∈ d.weights Try.prog 24, q ≤ reachBytes) :
    ∃ A : ConfV, v = .agg A.arr ∧ FitsF W A := by
  obtain ⟨cs, rfl, hsz⟩ := okWide_struct Try.underlying24 hv
  rw [show Try.prog.cellsOf 24 = 2 by kernel_rfl] at hsz
  obtain ⟨fuel, hf⟩ := h
  obtain ⟨A, hA, hF⟩ := conf_in10 (x := (d, p)) (by simpa [Value.cells] using hsz) hf hw
  refine ⟨A, ?_, hF⟩
  rw [show cs = A.arr from Array.toList_inj.1 (by simpa [Value.cells] using hA)]

set_option maxRecDepth 100000 in
theorem open_ent10 {v : Value} {d : DataW H} {p : List MemPlace} (hv : Value.okWide Try.prog W .any b0 31 v) (h : DataW.Trod enc Try.prog W base spare held 31 v d p) (hw : ∀ q ∈ d.weights Try.prog 31, q ≤ reachBytes) :
    ∃ A : EntV, v = .agg A.arr ∧ FitsE W A := by
  obtain ⟨cs, rfl, hsz⟩ := okWide_struct Try.underlying31 hv
  rw [show Try.prog.cellsOf 31 = 13 by kernel_rfl] at hsz
  obtain ⟨fuel, hf⟩ := h
  obtain ⟨A, hA, hF⟩ := ent_in10 (x := (d, p)) (by simpa [Value.cells] using hsz) hf hw
  refine ⟨A, ?_, hF⟩
  rw [show cs = A.arr from Array.toList_inj.1 (by simpa [Value.cells] using hA)]

end
end Go.Proofs.Ytnbaoimjcaeeaab
