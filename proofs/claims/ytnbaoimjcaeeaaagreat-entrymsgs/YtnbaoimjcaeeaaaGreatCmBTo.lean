import Derived.Test.YtnbaoimjcaeeaaaGreatEnVTo
import Derived.Test.YtnbaoimjcaeeaaaGreatCmATo
import Derived.Deep.RegionHeld3
import Derived.BigQuiet
import Derived.WalkSmall
/-
  From a row's own words to this proof's: members, entries, snapshots and messages that came in.
-/
namespace Go.Proofs.YtnbaoimjcaeeaaaGreat
open Go.ChangeShapes Go.WideShapes Go.ChangeAt Go.RowKit Go.Deep

section
variable {H : Type} {enc : TypeId × Value → H} {W : World} {spare : Nat → Bool} {held : Bool} {b0 base fuel : Nat}

theorem ints_in10 {a : Option Addr} {n c : Nat} {x : DataW H × List MemPlace} (h : DataW.trod enc Tryz.prog W base spare held fuel 26 [.slice a n c] = some x) (hw : ∀ q ∈ x.1.weights Tryz.prog 26, q ≤ reachBytes) :
    ∃ zs : List Int, zs.length = n ∧ HasI W (.slice a n c) zs ∧ inL zs ∧ n ≤ 17592186044416 := by
  rcases open_ints Tryz.underlying26 Tryz.underlying3 (by kernel_rfl) h with ⟨hcs, _⟩ | ⟨a', l, c', zs, hcs, _, hl, hm, hz, hx, hcell, hwz⟩
  · simp only [List.cons.injEq, Value.slice.injEq, and_true] at hcs
    obtain ⟨rfl, rfl, rfl⟩ := hcs
    exact ⟨[], rfl, HasI.nil W, (fun _ h => by cases h), by omega⟩
  · simp only [List.cons.injEq, Value.slice.injEq, and_true] at hcs
    obtain ⟨rfl, rfl, rfl⟩ := hcs
    have hnz : n ≤ zs.length := by rw [hz]; split <;> omega
    have hlen : (zs.take n).length = n := by rw [List.length_take]; omega
    have hs : n ≤ 17592186044416 := by
      have := hw ((((lits IntKind.i64 (zs.take n)) : List (DataW H)).length + ((lits IntKind.i64 (zs.drop n)) : List (DataW H)).length) * Tryz.prog.bytesOf 3) (by rw [hx]; simp [DataW.weights, Tryz.underlying26])
      rw [show Tryz.prog.bytesOf 3 = 8 by kernel_rfl] at this
      simp only [lits, List.length_map, hlen, reachBytes] at this
      omega
    refine ⟨zs.take n, hlen, ⟨some a', c, by rw [hlen], by rw [hlen]; exact hl, (fun h => by cases h), fun h0 => ?_⟩, fun z hz => ?_, hs⟩
    · rw [hlen] at h0 ⊢
      obtain ⟨b, o, s⟩ := a'
      obtain rfl : s = none := by simpa [Addr.add] using World.cell?_spot (hcell 0 (by omega))
      refine ⟨b, o, rfl, World.block_lt_of_cell? W _ (hcell 0 (by omega)), fun i hi => ?_⟩
      rw [← Go.WideShapes.add_plain, hcell i (by omega)]
      simp [List.getD_eq_getElem?_getD, hi]
    · exact bounds_i64 (hwz z (List.mem_of_mem_take hz))

theorem slice_form10 {t e : TypeId} (ht : Tryz.prog.underlying t = some (.slice e)) {v : Value} {x : DataW H × List MemPlace} (h : DataW.trod enc Tryz.prog W base spare held fuel t [v] = some x) : ∃ a m k, v = .slice a m k := by
  rcases open_slice ht h with ⟨hcs, _⟩ | ⟨a', len, cap, m, k, D, Pl, hcs, _⟩
  · simp at hcs; exact ⟨_, _, _, hcs⟩
  · simp at hcs; exact ⟨_, _, _, hcs⟩

set_option maxRecDepth 100000 in
theorem conf_in10 {cs : List Value} {x : DataW H × List MemPlace} (hlen : cs.length = 2) (h : DataW.trod enc Tryz.prog W base spare held fuel 28 cs = some x) (hw : ∀ q ∈ x.1.weights Tryz.prog 28, q ≤ reachBytes) :
    ∃ A : ConfV, cs = A.arr.toList ∧ FitsF W A := by
  obtain ⟨xs, k', hk, hxy, _, hxl, hf⟩ := DataW.trod_struct Tryz.underlying28 h
  match xs, hxl, cs, hlen with
  | [y0, y1], _, [v0, v1], _ =>
    have g0 := hf 0 _ rfl
    have g1 := hf 1 _ rfl
    simp [show Tryz.prog.cellsOf 26 = 1 by kernel_rfl] at g0 g1
    simp only [List.map_cons, List.map_nil] at hxy
    have hx1 : x.1 = .agg [y0.1, y1.1] := by rw [hxy]
    rw [hx1] at hw
    simp only [DataW.weights, Tryz.underlying28, DataW.weightsEach, List.map_cons, List.map_nil, List.append_nil, List.mem_append] at hw
    obtain ⟨a0, n0, c0, rfl⟩ := slice_form10 Tryz.underlying26 g0
    obtain ⟨a1, n1, c1, rfl⟩ := slice_form10 Tryz.underlying26 g1
    obtain ⟨z0, e0, p0, q0, r0⟩ := ints_in10 g0 fun q hq => hw q (by simp only [hq, true_or])
    obtain ⟨z1, e1, p1, q1, r1⟩ := ints_in10 g1 fun q hq => hw q (by simp only [hq, or_true])
    exact ⟨⟨⟨a0, n0, c0⟩, ⟨a1, n1, c1⟩, ⟨z0, z1⟩⟩, rfl, ⟨p0, p1, q0, q1, by rw [e0]; exact r0, by rw [e1]; exact r1⟩⟩

set_option maxRecDepth 100000 in
theorem cmd_in10 {cs : List Value} {x : DataW H × List MemPlace} (hlen : cs.length = 8) (h : DataW.trod enc Tryz.prog W base spare held fuel 25 cs = some x) (hw : ∀ q ∈ x.1.weights Tryz.prog 25, q ≤ reachBytes) :
    ∃ c : Cmd9, cs = c.arr.toList ∧ Fits9 c := by
  obtain ⟨xs, k', hk, hxy, _, hxl, hf⟩ := DataW.trod_struct Tryz.underlying25 h
  match xs, hxl, cs, hlen with
  | [y0, y1, y2, y3, y4, y5, y6, y7], _, [v0, v1, v2, v3, v4, v5, v6, v7], _ =>
    have g0 := hf 0 _ rfl
    have g1 := hf 1 _ rfl
    have g2 := hf 2 _ rfl
    have g3 := hf 3 _ rfl
    have g4 := hf 4 _ rfl
    have g5 := hf 5 _ rfl
    have g6 := hf 6 _ rfl
    have g7 := hf 7 _ rfl
    simp [show Tryz.prog.cellsOf 9 = 1 by kernel_rfl, show Tryz.prog.cellsOf 3 = 1 by kernel_rfl] at g0 g1 g2 g3 g4 g5 g6 g7
    simp only [List.map_cons, List.map_nil] at hxy
    have hx1 : x.1 = .agg [y0.1, y1.1, y2.1, y3.1, y4.1, y5.1, y6.1, y7.1] := by rw [hxy]
    rw [hx1] at hw
    simp only [DataW.weights, Tryz.underlying25, DataW.weightsEach, List.map_cons, List.map_nil, List.append_nil, List.mem_append] at hw
    obtain ⟨z0, hz0, rfl, w0⟩ := DataW.trod_int Tryz.underlying3 g0
    obtain ⟨z1, hz1, rfl, w1⟩ := DataW.trod_int Tryz.underlying3 g1
    obtain ⟨z2, hz2, rfl, w2⟩ := DataW.trod_int Tryz.underlying3 g2
    obtain ⟨s3, hs3, rfl, _⟩ := DataW.trod_string Tryz.underlying9 g3
    obtain ⟨s4, hs4, rfl, _⟩ := DataW.trod_string Tryz.underlying9 g4
    obtain ⟨s5, hs5, rfl, _⟩ := DataW.trod_string Tryz.underlying9 g5
    obtain ⟨s6, hs6, rfl, _⟩ := DataW.trod_string Tryz.underlying9 g6
    obtain ⟨z7, hz7, rfl, w7⟩ := DataW.trod_int Tryz.underlying3 g7
    cases hz0; cases hz1; cases hz2; cases hs3; cases hs4; cases hs5; cases hs6; cases hz7
    have q3 := hw s3.data.toList.length (by simp [DataW.weights])
    have q4 := hw s4.data.toList.length (by simp [DataW.weights])
    have q5 := hw s5.data.toList.length (by simp [DataW.weights])
    have q6 := hw s6.data.toList.length (by simp [DataW.weights])
    unfold reachBytes at q3 q4 q5 q6
    rw [Array.length_toList] at q3 q4 q5 q6
    exact ⟨⟨z0, z1, z2, s3, s4, s5, s6, z7⟩, rfl, q3, q4, q5, q6, bounds_i64 w0, bounds_i64 w1, bounds_i64 w2, bounds_i64 w7⟩

set_option maxRecDepth 100000 in
theorem ent_in10 {cs : List Value} {x : DataW H × List MemPlace} (hlen : cs.length = 13) (h : DataW.trod enc Tryz.prog W base spare held fuel 30 cs = some x) (hw : ∀ q ∈ x.1.weights Tryz.prog 30, q ≤ reachBytes) :
    ∃ A : EntV, cs = A.arr.toList ∧ FitsE W A := by
  obtain ⟨xs, k', hk, hxy, _, hxl, hf⟩ := DataW.trod_struct Tryz.underlying30 h
  match xs, hxl, cs, hlen with
  | [y0, y1, y2, y3, y4], _, [v0, v1, v2, v3, v4, v5, v6, v7, v8, v9, v10, v11, v12], _ =>
    have g0 := hf 0 _ rfl
    have g1 := hf 1 _ rfl
    have g2 := hf 2 _ rfl
    have g3 := hf 3 _ rfl
    have g4 := hf 4 _ rfl
    simp [show Tryz.prog.cellsOf 25 = 8 by kernel_rfl, show Tryz.prog.cellsOf 3 = 1 by kernel_rfl, show Tryz.prog.cellsOf 28 = 2 by kernel_rfl] at g0 g1 g2 g3 g4
    simp only [List.map_cons, List.map_nil] at hxy
    have hx1 : x.1 = .agg [y0.1, y1.1, y2.1, y3.1, y4.1] := by rw [hxy]
    rw [hx1] at hw
    simp only [DataW.weights, Tryz.underlying30, DataW.weightsEach, List.map_cons, List.map_nil, List.append_nil, List.mem_append] at hw
    obtain ⟨z0, hz0, rfl, w0⟩ := DataW.trod_int Tryz.underlying3 g0
    obtain ⟨z1, hz1, rfl, w1⟩ := DataW.trod_int Tryz.underlying3 g1
    obtain ⟨z2, hz2, rfl, w2⟩ := DataW.trod_int Tryz.underlying3 g2
    cases hz0; cases hz1; cases hz2
    obtain ⟨c, hc, fc⟩ := cmd_in10 rfl g3 fun q hq => hw q (by simp only [hq, true_or, or_true])
    obtain ⟨f, hff, ff⟩ := conf_in10 rfl g4 fun q hq => hw q (by simp only [hq, or_true])
    simp only [Cmd9.arr, List.cons.injEq, and_true] at hc
    simp only [ConfV.arr, List.cons.injEq, and_true] at hff
    obtain ⟨rfl, rfl, rfl, rfl, rfl, rfl, rfl, rfl⟩ := hc
    obtain ⟨rfl, rfl⟩ := hff
    exact ⟨⟨z0, z1, z2, c, f⟩, rfl, ⟨bounds_i64 w0, bounds_i64 w1, bounds_i64 w2, fc, ff⟩⟩

set_option maxRecDepth 100000 in
theorem snap_in10 {cs : List Value} {x : DataW H × List MemPlace} (hlen : cs.length = 5) (h : DataW.trod enc Tryz.prog W base spare held fuel 43 cs = some x) (hw : ∀ q ∈ x.1.weights Tryz.prog 43, q ≤ reachBytes) :
    ∃ A : SnapV, cs = A.arr.toList ∧ FitsS W A := by
  obtain ⟨xs, k', hk, hxy, _, hxl, hf⟩ := DataW.trod_struct Tryz.underlying43 h
  match xs, hxl, cs, hlen with
  | [y0, y1, y2, y3], _, [v0, v1, v2, v3, v4], _ =>
    have g0 := hf 0 _ rfl
    have g1 := hf 1 _ rfl
    have g2 := hf 2 _ rfl
    have g3 := hf 3 _ rfl
    simp [show Tryz.prog.cellsOf 3 = 1 by kernel_rfl, show Tryz.prog.cellsOf 28 = 2 by kernel_rfl, show Tryz.prog.cellsOf 22 = 1 by kernel_rfl] at g0 g1 g2 g3
    simp only [List.map_cons, List.map_nil] at hxy
    have hx1 : x.1 = .agg [y0.1, y1.1, y2.1, y3.1] := by rw [hxy]
    rw [hx1] at hw
    simp only [DataW.weights, Tryz.underlying43, DataW.weightsEach, List.map_cons, List.map_nil, List.append_nil, List.mem_append] at hw
    obtain ⟨z0, hz0, rfl, w0⟩ := DataW.trod_int Tryz.underlying3 g0
    obtain ⟨z1, hz1, rfl, w1⟩ := DataW.trod_int Tryz.underlying3 g1
    cases hz0; cases hz1
    obtain ⟨f, hff, ff⟩ := conf_in10 rfl g2 fun q hq => hw q (by simp only [hq, true_or, or_true])
    simp only [ConfV.arr, List.cons.injEq, and_true] at hff
    obtain ⟨rfl, rfl⟩ := hff
    obtain ⟨a, n, c, rfl⟩ := slice_form10 Tryz.underlying22 g3
    obtain ⟨zs, e, h1, h2, h3⟩ := bytes_in9 g3 fun q hq => hw q (by simp only [hq, or_true])
    exact ⟨⟨z0, z1, f, ⟨a, n, c⟩, zs⟩, rfl, ⟨bounds_i64 w0, bounds_i64 w1, ff, h1, h2, by rw [e]; exact h3⟩⟩

set_option maxRecDepth 100000 in
theorem ents_in10 {a : Option Addr} {n c : Nat} {x : DataW H × List MemPlace} (h : DataW.trod enc Tryz.prog W base spare held fuel 51 [.slice a n c] = some x) (hw : ∀ q ∈ x.1.weights Tryz.prog 51, q ≤ reachBytes) :
    ∃ zs : List EntV, HasE W ⟨a, n, c⟩ zs ∧ (n : Int) ≤ 9223372036854775807 := by
  rcases open_slice Tryz.underlying51 h with ⟨hcs, _⟩ | ⟨a', len, cap, m, k, D, Pl, hcs, hb, hl, hm, hmm, rfl, hx⟩
  · simp only [List.cons.injEq, Value.slice.injEq, and_true] at hcs
    obtain ⟨rfl, rfl, rfl⟩ := hcs
    exact ⟨[], HasE.nil W, by omega⟩
  · simp only [List.cons.injEq, Value.slice.injEq, and_true] at hcs
    obtain ⟨rfl, rfl, rfl⟩ := hcs
    have hlm : n ≤ m := by rw [hmm]; split <;> omega
    rw [show Tryz.prog.cellsOf 30 = 13 by kernel_rfl] at hx
    have each : ∀ i, i < n → ∃ A : EntV, (∀ j, j < 13 → W.cell? ((a'.add (i * 13)).add j) = A.arr.toList[j]?) ∧ FitsE W A := by
      intro i hi
      obtain ⟨cs', h1, h2⟩ := hx i (by omega)
      obtain ⟨_, hlen, hcell⟩ := World.cells?_some h1
      obtain ⟨A, rfl, hA⟩ := ent_in10 hlen h2 fun q hq => hw q (by
        simp only [DataW.weights, Tryz.underlying51, List.mem_cons, List.mem_append]
        exact .inr (.inl (weights_allP (List.mem_map.2 ⟨i, List.mem_range.2 hi, rfl⟩) q hq)))
      exact ⟨A, fun j hj => hcell j hj, hA⟩
    have each' : ∀ i, ∃ A : EntV, i < n → (∀ j, j < 13 → W.cell? ((a'.add (i * 13)).add j) = A.arr.toList[j]?) ∧ FitsE W A := fun i => by
      by_cases hi : i < n
      · obtain ⟨A, hA⟩ := each i hi
        exact ⟨A, fun _ => hA⟩
      · exact ⟨noEV, fun h => absurd h hi⟩
    obtain ⟨A, hA⟩ := Classical.axiomOfChoice each'
    have hlen : ((List.range n).map A).length = n := by simp
    have hget : ∀ i, i < n → ((List.range n).map A).getD i noEV = A i := fun i hi => by simp [List.getD_eq_getElem?_getD, hi]
    refine ⟨(List.range n).map A, ⟨hlen, hl, (fun h => by cases h), fun h0 => ?_, fun x hx => ?_⟩, by unfold maxLen at hm; omega⟩
    · dsimp only at h0 ⊢
      obtain ⟨b, o, s⟩ := a'
      have h00 := (hA 0 h0).1 0 (by omega)
      obtain rfl : s = none := by simpa [Addr.add] using World.cell?_spot h00
      refine ⟨b, o, rfl, World.block_lt_of_cell? W _ h00, fun i hi j hj => ?_⟩
      have h1 := (hA i hi).1 j hj
      rw [hget i hi]
      simp only [Go.WideShapes.add_plain] at h1
      rw [h1, Array.getElem?_toList]
    · obtain ⟨i, hi, rfl⟩ := List.mem_map.1 hx
      exact (hA i (List.mem_range.1 hi)).2

set_option maxRecDepth 100000 in
theorem open_conf10 {v : Value} {d : DataW H} {p : List MemPlace} (hv : Value.okWide Tryz.prog W .any b0 28 v) (h : DataW.Trod enc Tryz.prog W base spare held 28 v d p) (hw : ∀ q ∈ d.weights Tryz.prog 28, q ≤ reachBytes) :
    ∃ A : ConfV, v = .agg A.arr ∧ FitsF W A := by
  obtain ⟨cs, rfl, hsz⟩ := okWide_struct Tryz.underlying28 hv
  rw [show Tryz.prog.cellsOf 28 = 2 by kernel_rfl] at hsz
  obtain ⟨fuel, hf⟩ := h
  obtain ⟨A, hA, hF⟩ := conf_in10 (x := (d, p)) (by simpa [Value.cells] using hsz) hf hw
  refine ⟨A, ?_, hF⟩
  rw [show cs = A.arr from Array.toList_inj.1 (by simpa [Value.cells] using hA)]

set_option maxRecDepth 100000 in
theorem open_ent10 {v : Value} {d : DataW H} {p : List MemPlace} (hv : Value.okWide Tryz.prog W .any b0 30 v) (h : DataW.Trod enc Tryz.prog W base spare held 30 v d p) (hw : ∀ q ∈ d.weights Tryz.prog 30, q ≤ reachBytes) :
    ∃ A : EntV, v = .agg A.arr ∧ FitsE W A := by
  obtain ⟨cs, rfl, hsz⟩ := okWide_struct Tryz.underlying30 hv
  rw [show Tryz.prog.cellsOf 30 = 13 by kernel_rfl] at hsz
  obtain ⟨fuel, hf⟩ := h
  obtain ⟨A, hA, hF⟩ := ent_in10 (x := (d, p)) (by simpa [Value.cells] using hsz) hf hw
  refine ⟨A, ?_, hF⟩
  rw [show cs = A.arr from Array.toList_inj.1 (by simpa [Value.cells] using hA)]

set_option maxRecDepth 100000 in
theorem open_snap10 {v : Value} {d : DataW H} {p : List MemPlace} (hv : Value.okWide Tryz.prog W .any b0 43 v) (h : DataW.Trod enc Tryz.prog W base spare held 43 v d p) (hw : ∀ q ∈ d.weights Tryz.prog 43, q ≤ reachBytes) :
    ∃ A : SnapV, v = .agg A.arr ∧ FitsS W A := by
  obtain ⟨cs, rfl, hsz⟩ := okWide_struct Tryz.underlying43 hv
  rw [show Tryz.prog.cellsOf 43 = 5 by kernel_rfl] at hsz
  obtain ⟨fuel, hf⟩ := h
  obtain ⟨A, hA, hF⟩ := snap_in10 (x := (d, p)) (by simpa [Value.cells] using hsz) hf hw
  refine ⟨A, ?_, hF⟩
  rw [show cs = A.arr from Array.toList_inj.1 (by simpa [Value.cells] using hA)]

set_option maxRecDepth 100000 in
theorem open_hard10 {v : Value} {d : DataW H} {p : List MemPlace} (hv : Value.okWide Tryz.prog W .any b0 37 v) (h : DataW.Trod enc Tryz.prog W base spare held 37 v d p) :
    ∃ A : Hard10, v = .agg A.arr ∧ FitsH A := by
  obtain ⟨cs, rfl, hsz⟩ := okWide_struct Tryz.underlying37 hv
  rw [show Tryz.prog.cellsOf 37 = 3 by kernel_rfl] at hsz
  obtain ⟨fuel, hf⟩ := h
  obtain ⟨xs, k', hk, hxy, _, hxl, hf⟩ := DataW.trod_struct Tryz.underlying37 hf
  match xs, hxl, cs, hsz with
  | [y0, y1, y2], _, ⟨[v0, v1, v2]⟩, _ =>
    have g0 := hf 0 _ rfl
    have g1 := hf 1 _ rfl
    have g2 := hf 2 _ rfl
    simp [show Tryz.prog.cellsOf 3 = 1 by kernel_rfl, Value.cells] at g0 g1 g2
    obtain ⟨z0, hz0, rfl, w0⟩ := DataW.trod_int Tryz.underlying3 g0
    obtain ⟨z1, hz1, rfl, w1⟩ := DataW.trod_int Tryz.underlying3 g1
    obtain ⟨z2, hz2, rfl, w2⟩ := DataW.trod_int Tryz.underlying3 g2
    cases hz0; cases hz1; cases hz2
    exact ⟨⟨z0, z1, z2⟩, rfl, bounds_i64 w0, bounds_i64 w1, bounds_i64 w2⟩

set_option maxRecDepth 100000 in
theorem open_msg10 {v : Value} {d : DataW H} {p : List MemPlace} (hv : Value.okWide Tryz.prog W .any b0 53 v) (h : DataW.Trod enc Tryz.prog W base spare held 53 v d p) (hw : ∀ q ∈ d.weights Tryz.prog 53, q ≤ reachBytes) :
    ∃ A : MsgV, v = .agg A.arr ∧ FitsM W A := by
  obtain ⟨cs, rfl, hsz⟩ := okWide_struct Tryz.underlying53 hv
  rw [show Tryz.prog.cellsOf 53 = 16 by kernel_rfl] at hsz
  obtain ⟨fuel, hf⟩ := h
  obtain ⟨xs, k', hk, hxy, _, hxl, hf⟩ := DataW.trod_struct Tryz.underlying53 hf
  match xs, hxl, cs, hsz with
  | [y0, y1, y2, y3, y4, y5, y6, y7, y8, y9, y10, y11], _, ⟨[v0, v1, v2, v3, v4, v5, v6, v7, v8, v9, v10, v11, v12, v13, v14, v15]⟩, _ =>
    have g0 := hf 0 _ rfl
    have g1 := hf 1 _ rfl
    have g2 := hf 2 _ rfl
    have g3 := hf 3 _ rfl
    have g4 := hf 4 _ rfl
    have g5 := hf 5 _ rfl
    have g6 := hf 6 _ rfl
    have g7 := hf 7 _ rfl
    have g8 := hf 8 _ rfl
    have g9 := hf 9 _ rfl
    have g10 := hf 10 _ rfl
    have g11 := hf 11 _ rfl
    simp [show Tryz.prog.cellsOf 3 = 1 by kernel_rfl, show Tryz.prog.cellsOf 4 = 1 by kernel_rfl, show Tryz.prog.cellsOf 51 = 1 by kernel_rfl, show Tryz.prog.cellsOf 43 = 5 by kernel_rfl, Value.cells] at g0 g1 g2 g3 g4 g5 g6 g7 g8 g9 g10 g11
    simp only [Prod.mk.injEq, List.map_cons, List.map_nil] at hxy
    obtain ⟨rfl, -⟩ := hxy
    simp only [DataW.weights, Tryz.underlying53, DataW.weightsEach, List.map_cons, List.map_nil, List.append_nil, List.mem_append] at hw
    obtain ⟨z0, hz0, rfl, w0⟩ := DataW.trod_int Tryz.underlying3 g0
    obtain ⟨z1, hz1, rfl, w1⟩ := DataW.trod_int Tryz.underlying3 g1
    obtain ⟨z2, hz2, rfl, w2⟩ := DataW.trod_int Tryz.underlying3 g2
    obtain ⟨z3, hz3, rfl, w3⟩ := DataW.trod_int Tryz.underlying3 g3
    obtain ⟨z4, hz4, rfl, w4⟩ := DataW.trod_int Tryz.underlying3 g4
    obtain ⟨z5, hz5, rfl, w5⟩ := DataW.trod_int Tryz.underlying3 g5
    obtain ⟨z6, hz6, rfl, w6⟩ := DataW.trod_int Tryz.underlying3 g6
    obtain ⟨z7, hz7, rfl, w7⟩ := DataW.trod_int Tryz.underlying3 g7
    obtain ⟨z8, hz8, rfl⟩ := DataW.trod_bool Tryz.underlying4 g8
    obtain ⟨z9, hz9, rfl, w9⟩ := DataW.trod_int Tryz.underlying3 g9
    cases hz0; cases hz1; cases hz2; cases hz3; cases hz4; cases hz5; cases hz6; cases hz7; cases hz8; cases hz9
    obtain ⟨a, n, c, rfl⟩ := slice_form10 Tryz.underlying51 g10
    obtain ⟨zs, h1, h2⟩ := ents_in10 g10 fun q hq => hw q (by simp only [hq, true_or, or_true])
    obtain ⟨s, hs, fs⟩ := snap_in10 rfl g11 fun q hq => hw q (by simp only [hq, or_true])
    simp only [SnapV.arr, List.cons.injEq, and_true] at hs
    obtain ⟨rfl, rfl, rfl, rfl, rfl⟩ := hs
    exact ⟨⟨z0, z1, z2, z3, z4, z5, z6, z7, z8, z9, ⟨a, n, c⟩, zs, s⟩, rfl, ⟨bounds_i64 w0, bounds_i64 w1, bounds_i64 w2, bounds_i64 w3, bounds_i64 w4, bounds_i64 w5, bounds_i64 w6, bounds_i64 w7, bounds_i64 w9, h1, h2, fs⟩⟩

end
end Go.Proofs.YtnbaoimjcaeeaaaGreat

/-
  Contracts: command.asks.
-/
namespace Go.Proofs.YtnbaoimjcaeeaaaGreat
open Go.RowKit Go.Lib

/-- One goal for all the orders of a region. -/
structure Wrap9 (G : Prop) : Prop where
  out : G
theorem once_proved9 {G P : Prop} (proof : G) (main : Wrap9 G → P) : P := main ⟨proof⟩

set_option maxRecDepth 100000 in
set_option maxHeartbeats 1500000 in
theorem asks_any (c n : Cmd9) (w : World) : Calls Tryz.prog 129 #[.agg c.arr, .agg n.arr] w fun e w' => e = .returned (.bool (asks9 c n)) ∧ Below w.heap.size w w' := by
  obtain ⟨k, s, q, key, old, val, unt, lim⟩ := c
  obtain ⟨k', s', q', key', old', val', unt', lim'⟩ := n
  have he := eqlC
  have hg := grdC
  have hmix : Tryz.prog.follows Departure.mixedOrders = true := by kernel_rfl
  have HA : Hid (asks9 ⟨k, s, q, key, old, val, unt, lim⟩ ⟨k', s', q', key', old', val', unt', lim'⟩ = (decide (1 ≤ s) && decide (1 ≤ q) && same9 ⟨k, s, q, key, old, val, unt, lim⟩ ⟨k, s, q, key', old', val', unt', lim'⟩)) := rfl
  unfold Cmd9.arr
  dsimp only
  go_enter Tryz.func129, Tryz.ntmps129
  go_wp2_with fail
  apply once_proved9
  case main =>
    intro key
    go_region_with (fail)
    all_goals exact key.out
  case proof =>
    by_cases h1 : 1 ≤ s
    · by_cases h2 : 1 ≤ q
      · have HB : Hid (asks9 ⟨k, s, q, key, old, val, unt, lim⟩ ⟨k', s', q', key', old', val', unt', lim'⟩ = same9 ⟨k, s, q, key, old, val, unt, lim⟩ ⟨k, s, q, key', old', val', unt', lim'⟩) := by
          show _ = _
          rw [HA.out, decide_eq_true h1, decide_eq_true h2]
          rfl
        clear HA
        go_wp2
        go_ret
        rw [HB.out]
        exact ⟨rfl, below_drewN (((Below.refl _ _).alloc (Nat.le_refl _) _).alloc (by simp) _) 1⟩
      · have HB : Hid (asks9 ⟨k, s, q, key, old, val, unt, lim⟩ ⟨k', s', q', key', old', val', unt', lim'⟩ = false) := by
          show _ = _
          rw [HA.out, decide_eq_false h2]
          simp
        clear HA
        go_wp2
        go_ret
        rw [HB.out]
        exact ⟨rfl, below_drewN (((Below.refl _ _).alloc (Nat.le_refl _) _).alloc (by simp) _) 1⟩
    · have HB : Hid (asks9 ⟨k, s, q, key, old, val, unt, lim⟩ ⟨k', s', q', key', old', val', unt', lim'⟩ = false) := by
        show _ = _
        rw [HA.out, decide_eq_false h1]
        rfl
      clear HA
      go_wp2
      go_ret
      rw [HB.out]
      exact ⟨rfl, below_drewN (((Below.refl _ _).alloc (Nat.le_refl _) _).alloc (by simp) _) 1⟩
end Go.Proofs.YtnbaoimjcaeeaaaGreat
