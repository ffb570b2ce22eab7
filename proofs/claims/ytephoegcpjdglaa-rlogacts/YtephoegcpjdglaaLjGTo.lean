import Derived.Test.YtephoegcpjdglaaLiCTo
import Derived.Test.YtephoegcpjdglaaHRowETo
import Derived.Test.YtephoegcpjdglaaLxTo
import Derived.Test.YtephoegcpjdglaaLhGTo
namespace Go.Proofs.Ytephoegcpjdglaa
open Go.ChangeShapes Go.WideShapes Go.ChangeAt Go.RowKit Go.Deep
section
variable {H : Type} {enc : TypeId × Value → H} {W : World} {spare : Nat → Bool} {held : Bool} {b0 base fuel : Nat}

theorem ents_in13 {a : Option Addr} {n c : Nat} {x : DataW H × List MemPlace} (h : DataW.trod enc Try.prog W base spare held fuel 22 [.slice a n c] = some x) (hw : ∀ q ∈ x.1.weights Try.prog 22, q ≤ reachBytes) :
    ∃ zs : List EntV, HasE W ⟨a, n, c⟩ zs ∧ n ≤ 837723144948 := by
  obtain ⟨zs, hz, _⟩ := ents_in10 h hw
  refine ⟨zs, hz, ?_⟩
  rcases open_slice Try.underlying22 h with ⟨hcs, _⟩ | ⟨a', len, cap, m, k, D, Pl, hcs, hb, hl, hm, hmm, rfl, hx⟩
  · simp only [List.cons.injEq, Value.slice.injEq, and_true] at hcs
    obtain ⟨rfl, rfl, rfl⟩ := hcs
    omega
  · simp only [List.cons.injEq, Value.slice.injEq, and_true] at hcs
    obtain ⟨rfl, rfl, rfl⟩ := hcs
    have hlm : n ≤ m := by rw [hmm]; split <;> omega
    have := hw _ (by simp only [DataW.weights, Try.underlying22]; exact List.mem_cons_self)
    rw [show Try.prog.bytesOf 51 = 168 by kernel_rfl] at this
    simp only [List.length_map, List.length_range, reachBytes] at this
    omega

set_option maxRecDepth 100000 in
theorem beg_in13 {cs : List Value} {x : DataW H × List MemPlace} (hlen : cs.length = 3) (h : DataW.trod enc Try.prog W base spare held fuel 24 cs = some x) (hw : ∀ q ∈ x.1.weights Try.prog 24, q ≤ reachBytes) :
    ∃ A : BegV, cs = A.arr.toList ∧ FitsB13 W A := by
  obtain ⟨xs, k', hk, hxy, _, hxl, hf⟩ := DataW.trod_struct Try.underlying24 h
  match xs, hxl, cs, hlen with
  | [y0, y1, y2], _, [v0, v1, v2], _ =>
    have g0 := hf 0 _ rfl
    have g1 := hf 1 _ rfl
    have g2 := hf 2 _ rfl
    simp [show Try.prog.cellsOf 3 = 1 by kernel_rfl, show Try.prog.cellsOf 22 = 1 by kernel_rfl] at g0 g1 g2
    simp only [List.map_cons, List.map_nil] at hxy
    have hx1 : x.1 = .agg [y0.1, y1.1, y2.1] := by rw [hxy]
    rw [hx1] at hw
    simp only [DataW.weights, Try.underlying24, DataW.weightsEach, List.map_cons, List.map_nil, List.append_nil, List.mem_append] at hw
    obtain ⟨z0, hz0, rfl, w0⟩ := DataW.trod_int Try.underlying3 g0
    obtain ⟨z1, hz1, rfl, w1⟩ := DataW.trod_int Try.underlying3 g1
    cases hz0; cases hz1
    obtain ⟨a, n, c, rfl⟩ := slice_form10 Try.underlying22 g2
    obtain ⟨zs, h1, h2⟩ := ents_in13 g2 fun q hq => hw q (by simp only [hq, or_true])
    exact ⟨⟨z0, z1, ⟨a, n, c⟩, zs⟩, rfl, ⟨bounds_i64 w0, bounds_i64 w1, h1, h2⟩⟩
set_option maxRecDepth 100000 in
theorem act_in13 {cs : List Value} {x : DataW H × List MemPlace} (hlen : cs.length = 4) (h : DataW.trod enc Try.prog W base spare held fuel 29 cs = some x) (hw : ∀ q ∈ x.1.weights Try.prog 29, q ≤ reachBytes) :
    ∃ A : ActV13, cs = A.arr.toList ∧ FitsA13 W A := by
  obtain ⟨xs, k', hk, hxy, _, hxl, hf⟩ := DataW.trod_struct Try.underlying29 h
  match xs, hxl, cs, hlen with
  | [y0, y1, y2, y3], _, [v0, v1, v2, v3], _ =>
    have g0 := hf 0 _ rfl
    have g1 := hf 1 _ rfl
    have g2 := hf 2 _ rfl
    have g3 := hf 3 _ rfl
    simp [show Try.prog.cellsOf 3 = 1 by kernel_rfl, show Try.prog.cellsOf 22 = 1 by kernel_rfl] at g0 g1 g2 g3
    simp only [List.map_cons, List.map_nil] at hxy
    have hx1 : x.1 = .agg [y0.1, y1.1, y2.1, y3.1] := by rw [hxy]
    rw [hx1] at hw
    simp only [DataW.weights, Try.underlying29, DataW.weightsEach, List.map_cons, List.map_nil, List.append_nil, List.mem_append] at hw
    obtain ⟨z0, hz0, rfl, w0⟩ := DataW.trod_int Try.underlying3 g0
    obtain ⟨z1, hz1, rfl, w1⟩ := DataW.trod_int Try.underlying3 g1
    obtain ⟨z2, hz2, rfl, w2⟩ := DataW.trod_int Try.underlying3 g2
    cases hz0; cases hz1; cases hz2
    obtain ⟨a, n, c, rfl⟩ := slice_form10 Try.underlying22 g3
    obtain ⟨zs, h1, h2⟩ := ents_in13 g3 fun q hq => hw q (by simp only [hq, or_true])
    exact ⟨⟨z0, z1, z2, ⟨a, n, c⟩, zs⟩, rfl, ⟨bounds_i64 w0, bounds_i64 w1, bounds_i64 w2, h1, h2⟩⟩
set_option maxRecDepth 100000 in
theorem open_beg13 {v : Value} {d : DataW H} {p : List MemPlace} (hv : Value.okWide Try.prog W .any b0 24 v) (h : DataW.Trod enc Try.prog W base spare held 24 v d p) (hw : ∀ q ∈ d.weights Try.prog 24, q ≤ reachBytes) :
    ∃ A : BegV, v = .agg A.arr ∧ FitsB13 W A := by
  obtain ⟨cs, rfl, hsz⟩ := okWide_struct Try.underlying24 hv
  rw [show Try.prog.cellsOf 24 = 3 by kernel_rfl] at hsz
  obtain ⟨fuel, hf⟩ := h
  obtain ⟨A, hA, hF⟩ := beg_in13 (x := (d, p)) (by simpa [Value.cells] using hsz) hf hw
  refine ⟨A, ?_, hF⟩
  rw [show cs = A.arr from Array.toList_inj.1 (by simpa [Value.cells] using hA)]
set_option maxRecDepth 100000 in
theorem acts_in13 {a : Option Addr} {n c : Nat} {x : DataW H × List MemPlace} (h : DataW.trod enc Try.prog W base spare held fuel 25 [.slice a n c] = some x) (hw : ∀ q ∈ x.1.weights Try.prog 25, q ≤ reachBytes) :
    ∃ zs : List ActV13, HasA13 W ⟨a, n, c⟩ zs ∧ n ≤ 140737488355328 := by
  rcases open_slice Try.underlying25 h with ⟨hcs, _⟩ | ⟨a', len, cap, m, k, D, Pl, hcs, hb, hl, hm, hmm, rfl, hx⟩
  · simp only [List.cons.injEq, Value.slice.injEq, and_true] at hcs
    obtain ⟨rfl, rfl, rfl⟩ := hcs
    exact ⟨[], ⟨rfl, Nat.le_refl _, fun _ => rfl, fun h0 => absurd h0 (Nat.lt_irrefl 0), fun x hx => by cases hx⟩, by omega⟩
  · simp only [List.cons.injEq, Value.slice.injEq, and_true] at hcs
    obtain ⟨rfl, rfl, rfl⟩ := hcs
    have hlm : n ≤ m := by rw [hmm]; split <;> omega
    rw [show Try.prog.cellsOf 29 = 4 by kernel_rfl] at hx
    have hs : n ≤ 140737488355328 := by
      have := hw _ (by simp only [DataW.weights, Try.underlying25]; exact List.mem_cons_self)
      rw [show Try.prog.bytesOf 29 = 48 by kernel_rfl] at this
      simp only [List.length_map, List.length_range, reachBytes] at this
      omega
    have each : ∀ i, i < n → ∃ A : ActV13, (∀ j, j < 4 → W.cell? ((a'.add (i * 4)).add j) = A.arr.toList[j]?) ∧ FitsA13 W A := by
      intro i hi
      obtain ⟨cs', h1, h2⟩ := hx i (by omega)
      obtain ⟨_, hlen, hcell⟩ := World.cells?_some h1
      obtain ⟨A, rfl, hA⟩ := act_in13 hlen h2 fun q hq => hw q (by
        simp only [DataW.weights, Try.underlying25, List.mem_cons, List.mem_append]
        exact .inr (.inl (weights_allP (List.mem_map.2 ⟨i, List.mem_range.2 hi, rfl⟩) q hq)))
      exact ⟨A, fun j hj => hcell j hj, hA⟩
    have each' : ∀ i, ∃ A : ActV13, i < n → (∀ j, j < 4 → W.cell? ((a'.add (i * 4)).add j) = A.arr.toList[j]?) ∧ FitsA13 W A := fun i => by
      by_cases hi : i < n
      · obtain ⟨A, hA⟩ := each i hi
        exact ⟨A, fun _ => hA⟩
      · exact ⟨noAV13, fun h => absurd h hi⟩
    obtain ⟨A, hA⟩ := Classical.axiomOfChoice each'
    have hlen : ((List.range n).map A).length = n := by simp
    have hget : ∀ i, i < n → ((List.range n).map A).getD i noAV13 = A i := fun i hi => by simp [List.getD_eq_getElem?_getD, hi]
    refine ⟨(List.range n).map A, ⟨hlen, hl, (fun h => by cases h), fun h0 => ?_, fun x hx => ?_⟩, hs⟩
    · dsimp only at h0 ⊢
      obtain ⟨b, o, s⟩ := a'
      have h00 := (hA 0 h0).1 0 (by omega)
      obtain rfl : s = none := by simpa [Addr.add] using World.cell?_spot h00
      refine ⟨b, o, rfl, World.block_lt_of_cell? W _ h00, fun i hi j hj => ?_⟩
      have h1 := (hA i hi).1 j hj
      rw [hget i hi]
      simp only [Go.WideShapes.add_plain] at h1
      rw [h1, Array.getElem?_toList]
    · obtain ⟨i, hi, rfl⟩ := List.mem_map.1 hx
      exact (hA i (List.mem_range.1 hi)).2
end
end Go.Proofs.Ytephoegcpjdglaa

namespace Go.Proofs.Ytephoegcpjdglaa
open Go.RowKit Go.Shelf
attribute [local go_sem ↓] ldE_exec stE_exec ldE_execI stE_execI ldE_run ldE_box ldC_exec stC_exec ldC_execI stC_execI ldC_run oc_int oc_bool oc_string oc_slice oc_pointer
theorem sliceE_nil (a : Addr) (n c : Nat) (W : World) : (binOp .eql 22 (.slice (some a) n c) (.slice none 0 0)).run Try.prog W = .ok (.bool false) W := by
  simp [binOp, go_sem]
  show ((Op.equalIn (9999 + 1) 22 (.slice (some a) n c) (.slice none 0 0)).run Try.prog W).andThen _ = _
  rw [equal_slice8 9999 _ _ a n c W Try.underlying22]
  rfl
theorem sliceE_nil2 (W : World) : (binOp .eql 22 (.slice none 0 0) (.slice none 0 0)).run Try.prog W = .ok (.bool true) W := by
  simp [binOp, go_sem]
  show ((Op.equalIn (9999 + 1) 22 (.slice none 0 0) (.slice none 0 0)).run Try.prog W).andThen _ = _
  rw [equal_slice9 9999 _ _ W Try.underlying22]
  rfl
theorem hasR_of_hasE {w : World} {s : Sl10} {es : List EntV} (h : HasE w s es) : HasR w 13 (.slice s.p s.n s.c) s.n (entsV es) := by
  refine ⟨s.p, s.c, rfl, h.c, h.nl, by rw [entsV_len, h.n], fun h0 => ?_⟩
  obtain ⟨b, o, hp, hlt, hc⟩ := h.at' h0
  refine ⟨b, o, hp, hlt, fun j u hj => ?_⟩
  have hjl : j < (entsV es).length := (List.getElem?_eq_some_iff.1 hj).1
  rw [entsV_len, h.n] at hjl
  have e : j = j / 13 * 13 + j % 13 := by omega
  have h2 := hc (j / 13) (by omega) (j % 13) (by omega)
  rw [← entsV_at (by have := h.n; omega) (by omega), ← e] at h2
  rw [show o + j = o + j / 13 * 13 + j % 13 by omega, h2, hj]

set_option maxRecDepth 10000 in
theorem clone13 {s : Sl10} {es : List EntV} (w : World) (h : HasE w s es) (hl : s.n ≤ 837723144948) :
    Calls Try.prog 73 #[.slice s.p s.n s.c] w fun e w' => (∃ s' : Sl10, e = .returned (.slice s'.p s'.n s'.c) ∧ w'.ownsRow w.heap.size 51 13 (.slice s'.p s'.n s'.c) s.n (entsV es)) ∧ Below w.heap.size w w' := by
  have hR := hasR_of_hasE h
  have hn := h.n
  have h2 := h.nl
  have hc := h.c
  obtain ⟨p, n, c⟩ := s
  dsimp only at *
  cases p with
  | none =>
    obtain rfl := h2 rfl
    obtain rfl : n = 0 := by omega
    obtain rfl : es = [] := List.eq_nil_of_length_eq_zero hn
    have hnil := sliceE_nil2
    go_enter Try.func73, Try.ntmps73
    go_wp2
    go_ret
    exact ⟨⟨nilS10, rfl, World.ownsRow_nil _ _ _ _⟩, Below.refl _ _⟩
  | some a =>
    have hnil := sliceE_nil a n c
    have he : (w.alloc (.cells #[] 51)).ownsRow w.heap.size 51 13 (.slice (some ⟨w.heap.size, 0, none⟩) 0 0) 0 [] := row_none9 w w _ _ (Nat.le_refl _)
    have hba : Below w.heap.size w (w.alloc (.cells #[] 51)) := (Below.refl _ _).alloc (Nat.le_refl _) _
    have hR' : HasR (w.alloc (.cells #[] 51)) 13 (.slice (some a) n c) n (entsV es) := hasR_of_hasE (h.below hba)
    have hsz : w.heap.size ≤ (w.alloc (.cells #[] 51)).heap.size := hba.size
    have h0n : 0 + n ≤ 1099511627776 := by omega
    have h0m : (0 + n) * 168 ≤ 140737488355328 := by omega
    clear h hR
    go_enter Try.func73, Try.ntmps73
    go_wp2_with (at_builtin; refine ap_row elemE11 _ rfl _ _ rfl w.heap.size _ _ 0 n [] (entsV es) rfl rfl hR' (entsV_cell es) he h0n h0m hsz ?_; intro v' w' hown' hgrow hwh; refine Halt8.out ?_)
    rw [Nat.zero_add, List.nil_append] at hown'
    have hb : Below w.heap.size w w' := hba.trans ((Below.refl _ _).grown hgrow hsz fun k hk => (World.ownsRow.lt he k hk).1)
    obtain ⟨p', n', c', rfl⟩ := row_shape11 hown'
    clear hgrow hwh hR' he
    constructor
    go_wp2
    go_ret
    exact ⟨⟨⟨p', n', c'⟩, rfl, hown'⟩, hb⟩
theorem put_aft13 {l vs : List Value} {o r : Nat} (h : o + vs.length ≤ l.length) : (l.take o ++ vs ++ l.drop (o + vs.length))[o + vs.length + r]? = l[o + vs.length + r]? := by
  have hl : (l.take o ++ vs).length = o + vs.length := by rw [List.length_append, List.length_take]; omega
  rw [List.getElem?_append_right (by rw [hl]; omega), hl, List.getElem?_drop]
  congr 1
  omega
theorem zero_cells13 {n : Nat} : ∀ v ∈ (Builtin.zeroCells noEV.arr n).toList, v.oneCell' = true := by
  intro v hv
  obtain ⟨i, hi, rfl⟩ := List.mem_iff_getElem.1 hv
  simp only [Builtin.zeroCells]
  have hmm : i % 13 < 13 := Nat.mod_lt _ (by decide)
  have hall : ∀ r, r < 13 → (noEV.arr[r]!.oneCell' = true) := by
    intro r hr
    rcases r with _ | _ | _ | _ | _ | _ | _ | _ | _ | _ | _ | _ | _ | r <;> first | rfl | omega
  have := hall _ hmm
  simp only [Array.getElem_toList, Array.getElem_map, Array.getElem_range]
  exact this
def tailS13 (g o n c k : Nat) : Sl10 := ⟨if c = k then some ⟨g, o, none⟩ else some ⟨g, o + k * 13, none⟩, n - k, c - k⟩
theorem clearE13 {w : World} {G : Nat → Prop} {s : Sl10} {es : List EntV} (h : RowG w G s es) {g o k : Nat} (hp : s.p = some ⟨g, o, none⟩) (hk1 : 1 ≤ k) (hk : k ≤ s.n) (c' : Nat) (ty : TypeId) :
    ∃ w', (Builtin.clear_ #[22] ty #[.slice (some ⟨g, o, none⟩) k c']).run Try.prog w = .ok (.tuple #[]) w' ∧ RowG w' G (tailS13 g o s.n s.c k) (es.drop k) ∧ w.grownBy w' s.blk := by
  have hn := h.n
  have hc := h.c
  obtain ⟨g', o', a, hp', hGg, hg, hfit, hat⟩ := h.at' (by omega)
  rw [hp] at hp'
  cases hp'
  obtain ⟨m, hm⟩ : ∃ m, k = m + 1 := ⟨k - 1, by omega⟩
  have hzl : (Builtin.zeroCells noEV.arr k).toList.length = k * 13 := by rw [Array.length_toList, size_zeroCells]; rfl
  have hr13 : o + k * 13 ≤ a.size := by omega
  have hst := run_storeCells_cells (P := Try.prog) g o (Builtin.zeroCells noEV.arr k).toList 0 w (fun j hj => by
      rw [Nat.add_zero, box_cell hg, Array.getElem?_eq_getElem (by rw [hzl] at hj; omega)]
      rfl) (fun j _ => frozen9 hg _) zero_cells13
  simp only [Nat.add_zero] at hst
  obtain ⟨c2, hb', hc2⟩ := setCells_at (Builtin.zeroCells noEV.arr k).toList o w a hg (by rw [hzl]; exact hr13)
  have hgr := setCells_grown g (Builtin.zeroCells noEV.arr k).toList o w
  have hblk : s.blk = some g := blk_eq hp (by omega)
  have hss : Stay G 3 w (w.setCells g o (Builtin.zeroCells noEV.arr k).toList) := h.lists (by rw [hblk]; exact hgr)
  have hfl : o + (Builtin.zeroCells noEV.arr k).toList.length ≤ a.toList.length := by rw [hzl, Array.length_toList]; exact hr13
  have hcs : c2.size = a.size := by rw [← Array.length_toList, hc2, put_len hfl, Array.length_toList]
  refine ⟨_, ?_, ⟨by rw [List.length_drop, hn]; rfl, by show s.n - k ≤ s.c - k; omega, ?_, ?_, fun e he => (h.all e (List.mem_of_mem_drop he)).stay hss⟩, by rw [hblk]; exact hgr⟩
  · have hz := zeroE11
    rw [hm] at hst ⊢
    simp [Builtin.clear_, run_underlying Try.underlying22, Value.cells, hz, hst]
  · intro hnn
    unfold tailS13 at hnn
    dsimp only at hnn
    split at hnn <;> cases hnn
  · intro h0
    have h0' : 0 < s.c - k := h0
    refine ⟨g, o + k * 13, c2, ?_, hGg, hb', ?_, fun i hi j hj => ?_⟩
    · unfold tailS13
      dsimp only
      rw [if_neg (by omega)]
    · show o + k * 13 + (s.c - k) * 13 ≤ c2.size
      omega
    · have hi' : i < s.n - k := hi
      have h1 := put_aft13 (r := i * 13 + j) hfl
      rw [hzl] at h1
      rw [← Array.getElem?_toList, hc2, hzl, show o + k * 13 + i * 13 + j = o + k * 13 + (i * 13 + j) by omega, h1, Array.getElem?_toList]
      have h2 := hat (k + i) (by omega) j hj
      rw [show o + k * 13 + (i * 13 + j) = o + (k + i) * 13 + j by omega, h2]
      rw [List.getD_eq_getElem?_getD, List.getD_eq_getElem?_getD, List.getElem?_drop]
structure Drop13 (w : World) (b : Nat) (G : Nat → Prop) (s : Sl10) (es : List EntV) (L : LG) (n : Nat) (w' : World) : Prop where
  ex : ∃ (s2 : Sl10) (g2 : Int), w'.heap[b]? = some (.cells (logArr L s2 g2) 62 (0, 0)) ∧ RowG w' (more8 G w w') s2 (es.drop n) ∧ s2.n = s.n - n ∧ 0 ≤ g2 ∧ g2 ≤ 1125899906842624
  turn : Turn (fun k => k = b ∨ G k) w w'
section
variable {w : World} {b : Nat} {G : Nat → Prop} {s : Sl10} {es : List EntV} {g : Int} {L : LG}
set_option maxRecDepth 100000 in
set_option maxHeartbeats 2000000 in
theorem drop13_any (h : LogG w b G s es g L) (n : Nat) (hn1 : 1 ≤ n) (hn : n ≤ s.n) :
    Calls Try.prog 64 #[.pointer (some ⟨b, 0, none⟩), .int .i64 (n : Nat)] w fun e w' => e = .returned (.tuple #[]) ∧ Drop13 w b G s es L n w' := by
  have hcc := h.row.c
  obtain ⟨gb, o, a, hp, hGg, hg, hfit, hat⟩ := h.row.at' (by omega)
  have hne : b ≠ gb := fun e => by
    have h1 := h.obj
    rw [e, hg] at h1
    simp only [Option.some.injEq, Obj.cells.injEq] at h1
    exact absurd h1.2.1 (by decide)
  obtain ⟨w1, hrun, hR1, hg1⟩ := clearE13 h.row hp hn1 hn s.c 0
  have hblk : s.blk = some gb := blk_eq hp (by omega)
  rw [hblk] at hg1
  have hob1 : w1.heap[b]? = some (.cells (logArr L s g) 62 (0, 0)) := (hg1.block b h.lt fun e => hne (Option.some.inj e)).trans h.obj
  have c3 : w.cell? ⟨b, 3, none⟩ = some (.slice (some ⟨gb, o, none⟩) s.n s.c) := by have := h.cells.2.2.2.1; rwa [hp] at this
  have hlb := h.lt
  have d3 : w1.cell? ⟨b, 3, none⟩ = some (.slice (some ⟨gb, o, none⟩) s.n s.c) := by
    have := box_cell hob1 3
    dsimp only [logArr] at this
    rw [hp] at this
    exact this
  have d7 : w1.cell? ⟨b, 7, none⟩ = some (.int .i64 g) := box_cell hob1 7
  have f1 := frozen9 hob1
  have hlb1 := box_lt hob1
  have hG0 := h.g0
  have hG1 := h.g1
  have hsz := h.sz
  have HR1 : Hid (RowG w1 G ⟨if s.c = n then some ⟨gb, o, none⟩ else some ⟨gb, o + n * 13, none⟩, s.n - n, s.c - n⟩ (es.drop n)) := hR1
  have HO1 : Hid (w1.heap[b]? = some (.cells (logArr L s g) 62 (0, 0))) := hob1
  have HT1 : Hid (Turn (fun k => k = b ∨ G k) w w1) := (Turn.refl _ _).grown hg1 fun k hk => .inl (.inr (by rw [← Option.some.inj hk]; exact hGg))
  clear h hat hfit hg hR1 hg1 hob1 hblk
  go_enter Try.func64, Try.ntmps64
  go_upto_region 2 with fail
  generalize (if s.c = n then some (⟨gb, o, none⟩ : Addr) else some ⟨gb, o + n * 13, none⟩) = P at *
  have hNn : s.n - n ≤ 837723144948 := by omega
  have HNn : Hid (s.n - n = s.n - n) := rfl
  have ho2 : (w1.setCell ⟨b, 3, none⟩ (.slice P (s.n - n) (s.c - n))).heap[b]? = some (.cells (logArr L ⟨P, s.n - n, s.c - n⟩ g) 62 (0, 0)) := set_block9 HO1.out 3 _ (by show 3 < 8; decide)
  have ho3 : ((w1.setCell ⟨b, 3, none⟩ (.slice P (s.n - n) (s.c - n))).setCell ⟨b, 7, none⟩ (.int .i64 (g + n))).heap[b]? = some (.cells (logArr L ⟨P, s.n - n, s.c - n⟩ (g + n)) 62 (0, 0)) := set_block9 ho2 7 _ (by show 7 < 8; decide)
  have d7' : (w1.setCell ⟨b, 3, none⟩ (.slice P (s.n - n) (s.c - n))).cell? ⟨b, 7, none⟩ = some (.int .i64 g) := box_cell ho2 7
  have f2 := frozen9 ho2
  have hlb2 := box_lt ho2
  have wg : IntKind.i64.wrap (g + (n : Int)) = g + (n : Int) := by rw [IntKind.wrap_i64]; omega
  have hg3 := grown_trans (grown_set w1 b 3 (.slice P (s.n - n) (s.c - n))) (grown_set (w1.setCell ⟨b, 3, none⟩ (.slice P (s.n - n) (s.c - n))) b 7 (.int .i64 (g + n)))
  have hst : ∀ t, t ≠ 62 → Stay G t w1 ((w1.setCell ⟨b, 3, none⟩ (.slice P (s.n - n) (s.c - n))).setCell ⟨b, 7, none⟩ (.int .i64 (g + n))) := fun t hne => Stay.of_grown hg3 fun k hk a fr he => by
    cases hk
    rw [HO1.out] at he
    simp only [Option.some.injEq, Obj.cells.injEq] at he
    exact hne he.2.1.symm
  have HR3 : Hid (RowG ((w1.setCell ⟨b, 3, none⟩ (.slice P (s.n - n) (s.c - n))).setCell ⟨b, 7, none⟩ (.int .i64 (g + n))) G ⟨P, s.n - n, s.c - n⟩ (es.drop n)) := HR1.out.stay (hst _ (by decide)) (hst _ (by decide))
  have HT3 : Hid (Turn (fun k => k = b ∨ G k) w ((w1.setCell ⟨b, 3, none⟩ (.slice P (s.n - n) (s.c - n))).setCell ⟨b, 7, none⟩ (.int .i64 (g + n)))) := HT1.out.grown hg3 fun k hk => .inl (.inl (Option.some.inj hk).symm)
  have HO3 : Hid (((w1.setCell ⟨b, 3, none⟩ (.slice P (s.n - n) (s.c - n))).setCell ⟨b, 7, none⟩ (.int .i64 (g + n))).heap[b]? = some (.cells (logArr L ⟨P, s.n - n, s.c - n⟩ (g + n)) 62 (0, 0))) := ho3
  have hcc2 : s.n - n ≤ s.c - n := by omega
  clear ho2 ho3 hg3 hst d3 d7 f1 hlb1 HR1 HO1 HT1 c3 hrun
  go_upto_region 3 with fail
  generalize (w1.setCell ⟨b, 3, none⟩ (.slice P (s.n - n) (s.c - n))).setCell ⟨b, 7, none⟩ (.int .i64 (g + n)) = W3 at *
  clear d7' f2 hlb2 wg
  generalize hN2 : s.n - n = N2 at *
  have HN2 : Hid (N2 = s.n - n) := hN2.symm
  clear hN2
  generalize hg4 : g + (n : Int) = g4 at *
  have HG4 : Hid (0 ≤ g4 ∧ g4 ≤ 1125899906842624 + 837723144948) := by rw [Hid, ← hg4]; omega
  clear hg4
  generalize s.c - n = C2 at *
  have e3 : W3.cell? ⟨b, 3, none⟩ = some (.slice P N2 C2) := box_cell HO3.out 3
  have e7 : W3.cell? ⟨b, 7, none⟩ = some (.int .i64 g4) := box_cell HO3.out 7
  have hl3 := box_lt HO3.out
  by_cases hgt : (N2 : Int) < g4
  · have hh3 : ∀ m, HasE (W3.drewN m) ⟨P, N2, C2⟩ (es.drop n) := fun m => HR3.out.has.below (below_drewN (Below.refl _ _) m)
    have kc : ∀ m, Calls Try.prog 73 #[.slice P N2 C2] (W3.drewN m) fun e w' => (∃ s' : Sl10, e = .returned (.slice s'.p s'.n s'.c) ∧ w'.ownsRow (W3.drewN m).heap.size 51 13 (.slice s'.p s'.n s'.c) N2 (entsV (es.drop n))) ∧ Below (W3.drewN m).heap.size (W3.drewN m) w' := fun m => clone13 (s := ⟨P, N2, C2⟩) (W3.drewN m) (hh3 m) hNn
    have hlen : (es.drop n).length = N2 := (hh3 0).n
    have HLen : Hid ((es.drop n).length = N2) := hlen
    have HKc : Hid _ := kc
    clear hh3 kc hlen
    go_wp2
    go_quiet (fail)
    have e3' : (W3.drewN nq).cell? ⟨b, 3, none⟩ = some (.slice P N2 C2) := e3
    have hl3' : b < (W3.drewN nq).heap.size := hl3
    have kc := HKc.out nq
    clear e3 e7 hl3
    go_wp2_with fail
    refine kc.mono ?_
    rintro _ w4 ⟨⟨s4, rfl, ho4⟩, hb4⟩
    have hb34 : Below W3.heap.size W3 w4 := (below_drewN (Below.refl _ _) nq).trans hb4
    have hob4 := box_below HO3.out hb34
    have x3 := box_cell hob4 3
    dsimp only [logArr] at x3
    have f4 := frozen9 hob4
    have hl4 := box_lt hob4
    have x7 : w4.cell? ⟨b, 7, none⟩ = some (.int .i64 g4) := box_cell hob4 7
    have ho5 := set_block9 hob4 3 (.slice s4.p s4.n s4.c) (by show 3 < 8; decide)
    have ho6 := set_block9 ho5 7 (.int .i64 0) (by show 7 < 8; decide)
    have hg6 := grown_trans (grown_set w4 b 3 (.slice s4.p s4.n s4.c)) (grown_set (w4.setCell ⟨b, 3, none⟩ (.slice s4.p s4.n s4.c)) b 7 (.int .i64 0))
    have hz6 := hg6.size
    have hst : ∀ t, t ≠ 62 → Stay (more8 G W3 w4) t w4 ((w4.setCell ⟨b, 3, none⟩ (.slice s4.p s4.n s4.c)).setCell ⟨b, 7, none⟩ (.int .i64 0)) := fun t hne => Stay.of_grown hg6 fun k hk a fr he => by
      cases hk
      rw [hob4] at he
      simp only [Option.some.injEq, Obj.cells.injEq] at he
      exact hne he.2.1.symm
    have hR4 : RowG w4 (more8 G W3 w4) s4 (es.drop n) := by
      rw [← HLen.out] at ho4
      exact RowG.of_owns ho4 (fun k h1 h2 => .inr ⟨h1, h2⟩) fun e he => ((HR3.out.all e he).stay (.of_below hb34)).mono fun _ h => .inl h
    have hR6 := hR4.stay (hst _ (by decide)) (hst _ (by decide))
    have hT6 : Turn (fun k => k = b ∨ G k) w ((w4.setCell ⟨b, 3, none⟩ (.slice s4.p s4.n s4.c)).setCell ⟨b, 7, none⟩ (.int .i64 0)) := (HT3.out.trans (Turn.of_below hb34 (Nat.le_refl _))).grown hg6 fun k hk => .inl (.inl (Option.some.inj hk).symm)
    have HD : Hid (Drop13 w b G s es L n ((w4.setCell ⟨b, 3, none⟩ (.slice s4.p s4.n s4.c)).setCell ⟨b, 7, none⟩ (.int .i64 0))) := by
      refine ⟨⟨s4, 0, ho6, hR6.mono fun k hk => ?_, ?_, Int.le_refl _, by decide⟩, hT6⟩
      · rcases hk with hk | hk
        · exact .inl hk
        · exact .inr ⟨Nat.le_trans HT3.out.size hk.1, Nat.lt_of_lt_of_le hk.2 hz6⟩
      · have := hR6.n
        rw [HLen.out] at this
        rw [← this]
        exact HN2.out
    clear ho5 ho6 hg6 hst hR4 hR6 hT6 hob4 hb34 ho4 hb4 kc
    go_wp2
    go_end0
    exact ⟨rfl, HD.out⟩
  · have HF : Hid (∀ m, Drop13 w b G s es L n (W3.drewN m)) := fun m => by
      have hb := below_drewN (Below.refl W3.heap.size W3) m
      refine ⟨⟨⟨P, N2, C2⟩, g4, HO3.out, (HR3.out.stay (.of_below hb) (.of_below hb)).mono fun _ h => .inl h, HN2.out, HG4.out.1, ?_⟩, HT3.out.trans (Turn.of_below hb (Nat.le_refl _))⟩
      omega
    go_wp2
    go_quiet (fail)
    go_wp2
    go_end0
    exact ⟨rfl, HF.out _⟩
end
section
variable {w : World} {b : Nat} {G : Nat → Prop} {s : Sl10} {es : List EntV} {g : Int} {L : LG}
theorem compact_is13 {n : Nat} (hn : L.ix + n ≤ L.used) (hs : L.ix + n ≤ L.safe) (h1 : 1 ≤ n) : L.compact (L.ix + n) = (true, ⟨L.ix + n, (L.term (L.ix + n)).1, L.l.drop n, L.done, L.used, L.safe⟩) := by
  unfold LG.compact
  rw [if_pos ⟨by omega, hn, hs⟩, LG.slice_from]
set_option maxRecDepth 100000 in
set_option maxHeartbeats 2000000 in
theorem compact13_any (h : LogG w b G s es g L) (i : Int) :
    Calls Try.prog 36 #[.pointer (some ⟨b, 0, none⟩), .int .i64 i] w fun e w' => e = .returned (.bool (L.compact i).1) ∧ Turns13 w b G (L.compact i).2 w' := by
  have c1 : w.cell? ⟨b, 1, none⟩ = some (.int .i64 L.ix) := h.cells.2.1
  have c5 : w.cell? ⟨b, 5, none⟩ = some (.int .i64 L.used) := box_cell h.obj 5
  have c6 : w.cell? ⟨b, 6, none⟩ = some (.int .i64 L.safe) := box_cell h.obj 6
  have hlt := h.lt
  have kn : ∀ m, Calls Try.prog 51 #[.pointer (some ⟨b, 0, none⟩)] (w.drewN m) fun e w' => e = .returned (.bool false) ∧ w' = w.drewN m := fun m => none13_any (h.drewN m)
  have HH : Hid (LogG w b G s es g L) := h
  have HN : Hid (Nums13 L s.n) := h.nums
  have hI := h.inv.compact i
  by_cases h1 : i ≤ L.ix
  · have HF : Hid (L.compact i = (false, L)) := if_neg (by omega)
    rw [HF.out]
    clear h hI
    go_enter Try.func36, Try.ntmps36
    go_wp2
    go_quiet ((go_at_call 51; exact Calls.quiet_of_same (kn _)))
    go_wp2
    go_ret
    exact ⟨rfl, .of_below HH.out.log (below_drewN (Below.refl _ _) _)⟩
  by_cases h2 : min L.used L.safe < i
  · have HF : Hid (L.compact i = (false, L)) := if_neg (by omega)
    rw [HF.out]
    clear h hI
    go_enter Try.func36, Try.ntmps36
    go_wp2
    go_quiet ((go_at_call 51; exact Calls.quiet_of_same (kn _)))
    go_wp2
    go_ret
    exact ⟨rfl, .of_below HH.out.log (below_drewN (Below.refl _ _) _)⟩
  obtain ⟨n, hn⟩ : ∃ n : Nat, i = L.ix + n := ⟨(i - L.ix).toNat, by omega⟩
  have hn1 : 1 ≤ n := by omega
  have hc := compact_is13 (L := L) (n := n) (by omega) (by omega) hn1
  rw [← hn] at hc
  rw [hc] at hI ⊢
  have hns : n ≤ s.n := by have := HN.out.u1; have := HN.out.d1; have := HN.out.end'; omega
  have HI : Hid _ := hI
  have HNn : Hid (i = L.ix + n ∧ n ≤ s.n ∧ 1 ≤ n) := ⟨hn, hns, hn1⟩
  have hix0 := HN.out.x0
  have hix1 := HN.out.x1
  have hend := HN.out.e1
  have hi1 : L.ix ≤ i := by omega
  have hi2 : i ≤ L.end := by have := HN.out.u1; have := HN.out.d1; omega
  have wn : IntKind.i64.wrap (i - L.ix) = (n : Int) := by rw [IntKind.wrap_i64]; omega
  obtain ⟨tt, HTt⟩ : ∃ tt, Hid ((L.term i).1 = tt) := ⟨_, rfl⟩
  have kt : ∀ m, Calls Try.prog 61 #[.pointer (some ⟨b, 0, none⟩), .int .i64 i] (w.drewN m) fun e w' => e = .returned (.int .i64 tt) ∧ Below (w.drewN m).heap.size (w.drewN m) w' := fun m => by
    have := termAt13_any (h.drewN m) i hi1 hi2
    rwa [HTt.out] at this
  rw [HTt.out] at HI ⊢
  have HKt : Hid _ := kt
  clear h hI hc hn hns hn1 kt
  have h1' : ¬ i ≤ L.ix := h1
  have h2' : ¬ min L.used L.safe < i := h2
  go_enter Try.func36, Try.ntmps36
  go_wp2
  go_quiet ((go_at_call 51; exact Calls.quiet_of_same (kn _)))
  have kt := HKt.out nq
  clear kn h1 h2
  go_wp2_with fail
  refine kt.mono ?_
  rintro _ w2 ⟨rfl, hb2⟩
  have hb12 : Below w.heap.size w w2 := (below_drewN (Below.refl _ _) nq).trans hb2
  have hL2 := HH.out.below hb12
  have d1 : w2.cell? ⟨b, 1, none⟩ = some (.int .i64 L.ix) := hL2.cells.2.1
  have hlt2 := hL2.lt
  have kd := drop13_any hL2 n HNn.out.2.2 HNn.out.2.1
  have HB2 : Hid (Below w.heap.size w w2) := hb12
  clear kt hb2 hb12 hL2 c1 c5 c6
  go_wp2_with fail
  refine kd.mono ?_
  rintro _ w3 ⟨rfl, ⟨s3, g3, ho3, hR3, hn3, hg30, hg31⟩, hT3⟩
  have e1 : w3.cell? ⟨b, 1, none⟩ = some (.int .i64 L.ix) := box_cell ho3 1
  have e2 : w3.cell? ⟨b, 2, none⟩ = some (.int .i64 L.t0) := box_cell ho3 2
  have f3 := frozen9 ho3
  have hl3 := box_lt ho3
  have ho4 := set_block9 ho3 1 (.int .i64 i) (by show 1 < 8; decide)
  have ho5 := set_block9 ho4 2 (.int .i64 tt) (by show 2 < 8; decide)
  have hg5 := grown_trans (grown_set w3 b 1 (.int .i64 i)) (grown_set (w3.setCell ⟨b, 1, none⟩ (.int .i64 i)) b 2 (.int .i64 tt))
  have hst : ∀ t, t ≠ 62 → Stay (more8 G w2 w3) t w3 ((w3.setCell ⟨b, 1, none⟩ (.int .i64 i)).setCell ⟨b, 2, none⟩ (.int .i64 tt)) := fun t hne => Stay.of_grown hg5 fun k hk a fr he => by
    cases hk
    rw [ho3] at he
    simp only [Option.some.injEq, Obj.cells.injEq] at he
    exact hne he.2.1.symm
  have hz5 := hg5.size
  have hR5 := hR3.stay (hst _ (by decide)) (hst _ (by decide))
  have HT : Hid (Turns13 w b G ⟨i, tt, L.l.drop n, L.done, L.used, L.safe⟩ ((w3.setCell ⟨b, 1, none⟩ (.int .i64 i)).setCell ⟨b, 2, none⟩ (.int .i64 tt))) := by
    refine ⟨⟨s3, es.drop n, g3, ho5, hR5.mono fun k hk => ?_, by rw [List.map_drop, HH.out.map], ?_, ?_, ?_, hg30, hg31⟩, ((Turn.of_below HB2.out (Nat.le_refl _)).trans hT3).grown hg5 fun k hk => .inl (.inl (Option.some.inj hk).symm)⟩
    · rcases hk with hk | hk
      · exact .inl hk
      · exact .inr ⟨Nat.le_trans HB2.out.size hk.1, Nat.lt_of_lt_of_le hk.2 hz5⟩
    · exact HI.out
    · have h5 := HNn.out
      have h6 := HH.out.n
      have h7 := HN.out.end'
      show i + ((L.l.drop n).length : Int) ≤ _
      rw [List.length_drop]; omega
    · have := HN.out.n1
      omega
  clear ho3 hR3 hT3 ho4 ho5 hg5 hst hR5 kd
  go_wp2
  go_ret
  exact ⟨rfl, HT.out⟩
end
set_option maxRecDepth 100000 in
set_option maxHeartbeats 1000000 in
theorem rchain13_any (w : World) (ix t : Int) (s : Sl10) (es : List EntV) (hE : HasE w s es) (hl : s.n ≤ 1099511627776) (hx0 : 0 ≤ ix) (hx1 : ix ≤ 9223372036854775807) :
    Calls Try.prog 26 #[.int .i64 ix, .int .i64 t, .slice s.p s.n s.c] w fun e w' => e = .returned (.bool (chain13 ix t (es.map EntV.e))) ∧ Below w.heap.size w w' := by
  have hnn : Hid (es.length = s.n) := hE.n
  have hcc := hE.c
  have HE : Hid (HasE w s es) := hE
  obtain ⟨r, HR⟩ : ∃ r, Hid (chain13 ix t (es.map EntV.e) = r) := ⟨_, rfl⟩
  rw [HR.out]
  clear hE
  go_enter Try.func26, Try.ntmps26
  go_wp2
  go_loopw [1, 11] (fun s1 s11 wr => ∃ (j : Nat) (u : Int), s1 = .int .i64 u ∧ s11 = .int .i64 (j : Nat) ∧ j ≤ s.n ∧ Hid (chain13 (ix + j) u ((es.drop j).map EntV.e) = r) ∧ Below w.heap.size w wr) (fun _ s11 _ => s.n - (intOf s11).toNat)
  case atStart => exact ⟨0, t, rfl, rfl, Nat.zero_le _, by rw [Hid, ← HR.out, List.drop_zero]; congr 1; omega, Below.refl _ _⟩
  case round =>
    clear HR
    obtain ⟨j, u, rfl, rfl, hj, HC, hb⟩ := hrel
    by_cases hjn : j < s.n
    · have hEr := HE.out.below hb
      obtain ⟨g, o, hp, hg, hld⟩ := hEr.ld hjn
      have hej : es.getD j noEV ∈ es := getD_memE (by rw [hnn.out]; exact hjn)
      have hFe := hEr.all _ hej
      have HD : Hid ((es.drop j).map EntV.e = (es.getD j noEV).e :: (es.drop (j + 1)).map EntV.e) := by
        have hjl : j < es.length := by rw [hnn.out]; exact hjn
        rw [Hid, List.drop_eq_getElem_cons hjl, List.map_cons, List.getD_eq_getElem?_getD, List.getElem?_eq_getElem hjl]
        rfl
      have HC2 : Hid (((goodE10 (es.getD j noEV).e && decide ((es.getD j noEV).i = ix + j + 1) && decide (u ≤ (es.getD j noEV).t)) && chain13 (ix + j + 1) (es.getD j noEV).t ((es.drop (j + 1)).map EntV.e)) = r) := by
        rw [Hid, ← HC.out, HD.out]
        rfl
      clear hEr HC HD hej
      generalize es.getD j noEV = e at *
      rw [hp] at *
      have hbE := heap_alloc_new wr (.cells #[.int .i64 0, .int .i64 0, .int .i64 0, .int .i64 0, .int .i64 0, .int .i64 0, .string ⟨#[]⟩, .string ⟨#[]⟩, .string ⟨#[]⟩, .string ⟨#[]⟩, .int .i64 0, .slice none 0 0, .slice none 0 0] 51)
      have hth := there_box hbE 0 13 (Nat.le_refl _)
      have hst := stE_arr 0 e hth
      have hbE2 := setE_box e hbE rfl
      have hB2 : Below wr.heap.size wr ((wr.alloc (.cells #[.int .i64 0, .int .i64 0, .int .i64 0, .int .i64 0, .int .i64 0, .int .i64 0, .string ⟨#[]⟩, .string ⟨#[]⟩, .string ⟨#[]⟩, .string ⟨#[]⟩, .int .i64 0, .slice none 0 0, .slice none 0 0] 51)).setCells wr.heap.size 0 e.arr.toList) := setCells_below (Nat.le_refl _) _ _ ((Below.refl _ _).alloc (Nat.le_refl _) _)
      have hld2 := ldE_box _ _ _ _ _ hbE2 rfl
      have kg := rgoodE_any e _ (hFe.below hB2)
      have HB2 : Hid _ := hB2
      have hl2 := box_lt hbE2
      have HI : Hid (inI e.i ∧ inI e.t) := ⟨hFe.i, hFe.t⟩
      have hbE3 : Hid _ := hbE2
      clear hbE hbE2 hB2 hFe
      generalize hgg : goodE10 e.e = gd at *
      have HG : Hid (goodE10 e.e = gd) := hgg
      clear hgg
      go_wp2_with fail
      generalize (wr.alloc (.cells #[.int .i64 0, .int .i64 0, .int .i64 0, .int .i64 0, .int .i64 0, .int .i64 0, .string ⟨#[]⟩, .string ⟨#[]⟩, .string ⟨#[]⟩, .string ⟨#[]⟩, .int .i64 0, .slice none 0 0, .slice none 0 0] 51)).setCells wr.heap.size 0 e.arr.toList = W2 at *
      clear hld hth hst hld2
      refine kg.mono ?_
      rintro _ w3 ⟨rfl, hb3⟩
      have hB3 : Below wr.heap.size wr w3 := HB2.out.trans (hb3.mono HB2.out.size)
      have hbx3 := box_below hbE3.out hb3
      have HBf : Hid (Below w.heap.size w w3) := hb.trans (hB3.mono hb.size)
      have y0 : w3.cell? ⟨wr.heap.size, 0, none⟩ = some (.int .i64 e.i) := box_cell hbx3 0
      have y1 : w3.cell? ⟨wr.heap.size, 1, none⟩ = some (.int .i64 e.t) := box_cell hbx3 1
      have hl3 := box_lt hbx3
      clear kg HB2 hb3 hB3 hbE3 hbx3
      cases gd with
      | false =>
        have HF : Hid (r = false) := by rw [Hid, ← HC2.out]; rfl
        clear HC2
        go_wp2
        go_ret
        exact ⟨by rw [HF.out]; rfl, HBf.out⟩
      | true =>
        have hIi := HI.out.1.2
        by_cases h0 : e.i ≤ ix
        · have HF : Hid (r = false) := by rw [Hid, ← HC2.out, decide_eq_false (by omega), Bool.and_false, Bool.false_and, Bool.false_and]
          clear HC2
          go_wp2
          go_ret
          exact ⟨by rw [HF.out]; rfl, HBf.out⟩
        have w1 : IntKind.i64.wrap (e.i - ix) = e.i - ix := by rw [IntKind.wrap_i64]; omega
        have w2 : IntKind.i64.wrap ((j : Int) + 1) = (j : Int) + 1 := by rw [IntKind.wrap_i64]; omega
        by_cases h1 : e.i = ix + j + 1
        · have h1' : (e.i - ix != (j : Int) + 1) = false := by rw [bne_eq_false_iff_eq]; omega
          by_cases h2 : u ≤ e.t
          · have HC3 : Hid (chain13 (ix + (j + 1 : Nat)) e.t ((es.drop (j + 1)).map EntV.e) = r) := by
              have := HC2.out
              rw [decide_eq_true h1, decide_eq_true h2, Bool.true_and, Bool.true_and, Bool.true_and] at this
              rw [Hid, ← this]
              congr 1
              omega
            have h2' : ¬ e.t < u := by omega
            clear HC2 h1 h2
            go_wp2
            go_roundw
            case rel => exact ⟨j + 1, e.t, rfl, by go_num, by omega, HC3, HBf.out⟩
            case measure => simp only [intOf]; omega
          · have HF : Hid (r = false) := by rw [Hid, ← HC2.out, decide_eq_false h2, Bool.and_false, Bool.false_and]
            clear HC2 h1
            go_wp2
            go_ret
            exact ⟨by rw [HF.out]; rfl, HBf.out⟩
        · have HF : Hid (r = false) := by rw [Hid, ← HC2.out, decide_eq_false h1, Bool.and_false, Bool.false_and, Bool.false_and]
          have h1' : (e.i - ix != (j : Int) + 1) = true := by rw [bne_iff_ne]; omega
          clear HC2
          go_wp2
          go_ret
          exact ⟨by rw [HF.out]; rfl, HBf.out⟩
    · obtain rfl : j = s.n := by omega
      have HF : Hid (r = true) := by
        have := HC.out
        rw [← hnn.out, List.drop_length] at this
        exact this.symm
      clear HC
      go_wp2
      go_ret
      exact ⟨by rw [HF.out]; rfl, hb⟩
structure NewV13 (w : World) (o : Option LG) (v : Value) (w' : World) : Prop where
  bel : Below w.heap.size w w'
  no : o = none → v = .pointer none
  yes : ∀ L, o = some L → ∃ b, v = .pointer (some ⟨b, 0, none⟩) ∧ w.heap.size ≤ b ∧ b < w'.heap.size ∧ Log13 w' b (fun k => w.heap.size ≤ k ∧ k < w'.heap.size) L
theorem newV13_any (w : World) (ix t : Int) (s : Sl10) (es : List EntV) (hE : HasE w s es) (hl : s.n ≤ 837723144948) (hx : inI ix) :
    Calls Try.prog 7 #[.int .i64 ix, .int .i64 t, .slice s.p s.n s.c] w fun e w' => ∃ v, e = .returned v ∧ NewV13 w (new13 ix t (es.map EntV.e)) v w' := by
  refine (new13_any w ix t s es hE hl hx).mono ?_
  intro e w' h
  cases ho : new13 ix t (es.map EntV.e) with
  | none =>
    rw [ho] at h
    exact ⟨_, h.no rfl, h.bel, fun _ => rfl, fun _ h => by cases h⟩
  | some L =>
    rw [ho] at h
    obtain ⟨b, rfl, h1, h2, h3⟩ := h.yes L rfl
    exact ⟨_, rfl, h.bel, (fun h => by cases h), fun L' hL => by obtain rfl := Option.some.inj hL; exact ⟨b, rfl, h1, h2, h3⟩⟩
theorem LogG.turn {w w' : World} {b : Nat} {G S : Nat → Prop} {s : Sl10} {es : List EntV} {g : Int} {L : LG} (h : LogG w b G s es g L) (ht : Turn S w w') (hs : ∀ k, S k → ¬ (k = b ∨ G k)) : LogG w' b G s es g L :=
  ⟨(ht.block b h.lt fun hb => hs b hb (.inl rfl)).trans h.obj, h.row.stay (.of_turn ht fun k hk hS => hs k hS (.inr hk)) (.of_turn ht fun k hk hS => hs k hS (.inr hk)), h.map, h.inv, h.top, h.sz, h.g0, h.g1⟩
theorem Log13.turn {w w' : World} {b : Nat} {G S : Nat → Prop} {L : LG} (h : Log13 w b G L) (ht : Turn S w w') (hs : ∀ k, S k → ¬ (k = b ∨ G k)) : Log13 w' b G L := by
  obtain ⟨s, es, g, h⟩ := h
  exact ⟨s, es, g, h.turn ht hs⟩
section
variable {w0 w w' : World} {b1 b2 : Nat} {G1 G2 : Nat → Prop} {L1 L2 L' : LG}
end
theorem lgV13_new {w0 w w' : World} {L : LG} {v : Value} (hb : Below w0.heap.size w0 w) (h : NewV13 w (some L) v w') : ∃ b, v = .pointer (some ⟨b, 0, none⟩) ∧ w.heap.size ≤ b ∧ Lg13 w0 w' b (fun k => w.heap.size ≤ k ∧ k < w'.heap.size) L := by
  obtain ⟨b, he, h1, h2, h3⟩ := h.yes L rfl
  have hz := hb.size
  exact ⟨b, he, h1, h3, fun k hk => ⟨by omega, hk.2⟩, by omega, hb.trans (h.bel.mono hz)⟩
theorem heavy_len13 {w : World} {s : Sl10} {es : List EntV} (h : heavy13 (es.map EntV.e) = false) (hE : HasE w s es) : s.n ≤ 200 := by
  have h1 := of_decide_eq_false h
  have h2 := sum_len13 (es.map EntV.e)
  rw [List.length_map] at h2
  have := hE.n
  omega
def rfArr (L : LG) (s : Sl10) : Array Value := #[.int .i64 L.ix, .int .i64 L.t0, .slice s.p s.n s.c, .int .i64 L.done, .int .i64 L.used, .int .i64 L.safe]
structure RfG (w0 w : World) (r : Nat) (G : Nat → Prop) (s : Sl10) (es : List EntV) (L : LG) : Prop where
  obj : w.heap[r]? = some (.cells (rfArr L s) 38 (0, 0))
  n : es.length = s.n
  c : s.n ≤ s.c
  nl : s.p = none → s.c = 0
  at' : 0 < s.c → ∃ g o a, s.p = some ⟨g, o, none⟩ ∧ G g ∧ w.heap[g]? = some (.cells a 51 (0, 0)) ∧ o + s.c * 13 ≤ a.size ∧ ∀ i, i < s.n → ∀ j, j < 13 → a[o + i * 13 + j]? = (es.getD i noEV).arr[j]?
  all : ∀ e ∈ es, FitsE w0 e
  bel : Below w0.heap.size w0 w
  own : ∀ k, (k = r ∨ G k) → w0.heap.size ≤ k ∧ k < w.heap.size
  map : es.map EntV.e = L.l
  inv : L.Inv
  top : L.end ≤ 1125899906842624
  sz : s.n ≤ 837723144948
section
variable {w0 w w' : World} {r : Nat} {G S : Nat → Prop} {s : Sl10} {es : List EntV} {L : LG}
theorem RfG.turn (h : RfG w0 w r G s es L) (ht : Turn S w w') (hs : ∀ k, S k → ¬ (k = r ∨ G k)) (h0 : ∀ k, S k → w0.heap.size ≤ k) : RfG w0 w' r G s es L :=
  ⟨(ht.block r (h.own r (.inl rfl)).2 fun hr => hs r hr (.inl rfl)).trans h.obj, h.n, h.c, h.nl, fun hc => by
    obtain ⟨g, o, a, h1, h2, h3, h4⟩ := h.at' hc
    exact ⟨g, o, a, h1, h2, (ht.block g (h.own g (.inr h2)).2 fun hr => hs g hr (.inr h2)).trans h3, h4⟩, h.all, h.bel.trans (ht.below h0 h.bel.size), fun k hk => ⟨(h.own k hk).1, Nat.lt_of_lt_of_le (h.own k hk).2 ht.size⟩, h.map, h.inv, h.top, h.sz⟩
theorem RfG.below (h : RfG w0 w r G s es L) (hb : Below w.heap.size w w') : RfG w0 w' r G s es L := h.turn (S := fun _ => False) (Turn.of_below hb (Nat.le_refl _)) (fun _ hk => hk.elim) (fun _ hk => hk.elim)
theorem RfG.lt (h : RfG w0 w r G s es L) : r < w.heap.size := (h.own r (.inl rfl)).2
theorem RfG.has (h : RfG w0 w r G s es L) : HasE w s es := ⟨h.n, h.c, h.nl, fun h0 => by
  obtain ⟨g, o, a, h1, h2, h3, h4, h5⟩ := h.at' (Nat.lt_of_lt_of_le h0 h.c)
  exact ⟨g, o, h1, box_lt h3, fun i hi j hj => (box_cell h3 _).trans (h5 i hi j hj)⟩, fun e he => (h.all e he).below h.bel⟩
theorem RfG.len (h : RfG w0 w r G s es L) : L.l.length = s.n := by rw [← h.map, List.length_map]; exact h.n
theorem RfG.nums (h : RfG w0 w r G s es L) : Nums13 L s.n := by
  have h1 := h.inv.x0
  have h2 := h.top
  have h3 := h.len
  have h4 : L.end = L.ix + L.l.length := rfl
  have h5 := h.inv.used
  have h6 := h.inv.done
  have h7 := h.inv.most
  have h8 := h.inv.sx
  have h9 := h.inv.safe
  exact ⟨h1, by omega, by omega, h2, h.sz, by omega, h7, h5, h6, h8, h9⟩
theorem RfG.cells (h : RfG w0 w r G s es L) : w.cell? ⟨r, 0, none⟩ = some (.int .i64 L.ix) ∧ w.cell? ⟨r, 1, none⟩ = some (.int .i64 L.t0) ∧ w.cell? ⟨r, 2, none⟩ = some (.slice s.p s.n s.c) ∧ w.cell? ⟨r, 3, none⟩ = some (.int .i64 L.done) ∧ w.cell? ⟨r, 4, none⟩ = some (.int .i64 L.used) ∧ w.cell? ⟨r, 5, none⟩ = some (.int .i64 L.safe) :=
  ⟨box_cell h.obj 0, box_cell h.obj 1, box_cell h.obj 2, box_cell h.obj 3, box_cell h.obj 4, box_cell h.obj 5⟩
set_option maxRecDepth 100000 in
set_option maxHeartbeats 6000000 in
theorem rlast13_any (h : RfG w0 w r G s es L) :
    Calls Try.prog 46 #[.pointer (some ⟨r, 0, none⟩)] w fun e w' => e = .returned (.tuple #[.int .i64 L.end, .int .i64 L.endT]) ∧ Below w.heap.size w w' := by
  obtain ⟨c0, c1, c2, -⟩ := h.cells
  have hlt := h.lt
  have HN : Hid (Nums13 L s.n) := h.nums
  by_cases h0 : s.n = 0
  · have hl0 : L.l = [] := List.eq_nil_of_length_eq_zero (by rw [h.len]; exact h0)
    have HF : Hid (L.end = L.ix ∧ L.endT = L.t0) := ⟨by have := HN.out.end'; omega, by unfold LG.endT; rw [hl0]; rfl⟩
    rw [HF.out.1, HF.out.2]
    rw [h0] at c2
    clear h
    go_enter Try.func46, Try.ntmps46
    go_wp2
    go_quiet (fail)
    go_wp2
    go_ret2
    exact ⟨rfl, below_drewN (Below.refl _ _) _⟩
  · obtain ⟨m, hm⟩ : ∃ m, s.n = m + 1 := ⟨s.n - 1, by omega⟩
    have hml : m < L.l.length := by rw [h.len]; omega
    have hge := entGet13 h.map hml
    have HF : Hid (L.end = (es.getD m noEV).i ∧ L.endT = (es.getD m noEV).t) := by
      have h1 := (chain_at13 h.inv.row hml).2
      rw [← hge] at h1
      have h2 : (es.getD m noEV).i = L.ix + m + 1 := h1
      refine ⟨by rw [h2, HN.out.end', hm]; omega, ?_⟩
      have h3 := lastT_last13 (t := L.t0) (l := L.l) (by omega)
      unfold LG.endT
      rw [h3]
      have e : L.l.length - 1 = m := by rw [h.len]; omega
      have h4 : (es.getD m noEV).t = L.l[m].t := by rw [← hge]; rfl
      rw [h4]
      congr 2
    obtain ⟨g, o, hp, hg, hld⟩ := h.has.ld (j := m) (by omega)
    have hldN : Hid (∀ W, Below w.heap.size w W → (ldE (.pointer (some ⟨g, o + m * 13, none⟩))).run Try.prog W = .ok (.agg (es.getD m noEV).arr) W) := fun W hb => by
      obtain ⟨g', o', hp', -, hl'⟩ := (h.below hb).has.ld (j := m) (by omega)
      rw [hp] at hp'
      cases hp'
      exact hl'
    have hcc := h.c
    have hsz := h.sz
    rw [HF.out.1, HF.out.2]
    generalize es.getD m noEV = y at *
    rw [hp] at c2
    clear h hge
    have hnz : ((s.n : Int) == 0) = false := by simpa using h0
    have hn1 : IntKind.i64.wrap ((s.n : Int) - 1) = (m : Int) := by rw [IntKind.wrap_i64]; omega
    have hmn : m < s.n := by omega
    clear hm
    go_enter Try.func46, Try.ntmps46
    have bA : Below w.heap.size w (w.alloc (.cells #[.int .i64 0, .int .i64 0, .int .i64 0, .int .i64 0, .int .i64 0, .int .i64 0, .string ⟨#[]⟩, .string ⟨#[]⟩, .string ⟨#[]⟩, .string ⟨#[]⟩, .int .i64 0, .slice none 0 0, .slice none 0 0] 51)).drew := below_ad13 ((Below.refl _ _).alloc (Nat.le_refl _) _)
    have A0 : (ldE (.pointer (some ⟨g, o + m * 13, none⟩))).run Try.prog w.drew = .ok (.agg y.arr) w.drew := hldN.out _ (below_drew13 w)
    have A1 : (w.alloc (.cells #[.int .i64 0, .int .i64 0, .int .i64 0, .int .i64 0, .int .i64 0, .int .i64 0, .string ⟨#[]⟩, .string ⟨#[]⟩, .string ⟨#[]⟩, .string ⟨#[]⟩, .int .i64 0, .slice none 0 0, .slice none 0 0] 51)).drew.cell? ⟨r, 2, none⟩ = some (.slice (some ⟨g, o, none⟩) s.n s.c) := (bA.cell (p := ⟨r, 2, none⟩) hlt).trans c2
    have A2 : (ldE (.pointer (some ⟨g, o + m * 13, none⟩))).run Try.prog (w.alloc (.cells #[.int .i64 0, .int .i64 0, .int .i64 0, .int .i64 0, .int .i64 0, .int .i64 0, .string ⟨#[]⟩, .string ⟨#[]⟩, .string ⟨#[]⟩, .string ⟨#[]⟩, .int .i64 0, .slice none 0 0, .slice none 0 0] 51)).drew = .ok (.agg y.arr) (w.alloc (.cells #[.int .i64 0, .int .i64 0, .int .i64 0, .int .i64 0, .int .i64 0, .int .i64 0, .string ⟨#[]⟩, .string ⟨#[]⟩, .string ⟨#[]⟩, .string ⟨#[]⟩, .int .i64 0, .slice none 0 0, .slice none 0 0] 51)).drew := hldN.out _ bA
    have hbE : (w.alloc (.cells #[.int .i64 0, .int .i64 0, .int .i64 0, .int .i64 0, .int .i64 0, .int .i64 0, .string ⟨#[]⟩, .string ⟨#[]⟩, .string ⟨#[]⟩, .string ⟨#[]⟩, .int .i64 0, .slice none 0 0, .slice none 0 0] 51)).drew.heap[w.heap.size]? = some (.cells #[.int .i64 0, .int .i64 0, .int .i64 0, .int .i64 0, .int .i64 0, .int .i64 0, .string ⟨#[]⟩, .string ⟨#[]⟩, .string ⟨#[]⟩, .string ⟨#[]⟩, .int .i64 0, .slice none 0 0, .slice none 0 0] 51) := heap_alloc_new w _
    have A3 : (stE (.pointer (some ⟨w.heap.size, 0, none⟩)) (.agg y.arr)).run Try.prog (w.alloc (.cells #[.int .i64 0, .int .i64 0, .int .i64 0, .int .i64 0, .int .i64 0, .int .i64 0, .string ⟨#[]⟩, .string ⟨#[]⟩, .string ⟨#[]⟩, .string ⟨#[]⟩, .int .i64 0, .slice none 0 0, .slice none 0 0] 51)).drew = .ok () ((w.alloc (.cells #[.int .i64 0, .int .i64 0, .int .i64 0, .int .i64 0, .int .i64 0, .int .i64 0, .string ⟨#[]⟩, .string ⟨#[]⟩, .string ⟨#[]⟩, .string ⟨#[]⟩, .int .i64 0, .slice none 0 0, .slice none 0 0] 51)).drew.setCells w.heap.size 0 y.arr.toList) := stE_arr 0 y (there_box hbE 0 13 (Nat.le_refl _))
    have hbE2 : ((w.alloc (.cells #[.int .i64 0, .int .i64 0, .int .i64 0, .int .i64 0, .int .i64 0, .int .i64 0, .string ⟨#[]⟩, .string ⟨#[]⟩, .string ⟨#[]⟩, .string ⟨#[]⟩, .int .i64 0, .slice none 0 0, .slice none 0 0] 51)).drew.setCells w.heap.size 0 y.arr.toList).heap[w.heap.size]? = some (.cells y.arr 51 (0, 0)) := setE_box y hbE rfl
    have HbE : Hid _ := hbE2
    have HB2 : Hid (Below w.heap.size w ((w.alloc (.cells #[.int .i64 0, .int .i64 0, .int .i64 0, .int .i64 0, .int .i64 0, .int .i64 0, .string ⟨#[]⟩, .string ⟨#[]⟩, .string ⟨#[]⟩, .string ⟨#[]⟩, .int .i64 0, .slice none 0 0, .slice none 0 0] 51)).drew.setCells w.heap.size 0 y.arr.toList)) := setCells_below (Nat.le_refl _) _ _ bA
    clear hbE hbE2 bA hld
    go_wp2_with fail
    go_region_law (fail)
    all_goals
      generalize (w.alloc (.cells #[.int .i64 0, .int .i64 0, .int .i64 0, .int .i64 0, .int .i64 0, .int .i64 0, .string ⟨#[]⟩, .string ⟨#[]⟩, .string ⟨#[]⟩, .string ⟨#[]⟩, .int .i64 0, .slice none 0 0, .slice none 0 0] 51)).drew.setCells w.heap.size 0 y.arr.toList = W2 at *
      have y0 : W2.cell? ⟨w.heap.size, 0, none⟩ = some (.int .i64 y.i) := box_cell HbE.out 0
      have y1 : W2.cell? ⟨w.heap.size, 1, none⟩ = some (.int .i64 y.t) := box_cell HbE.out 1
      have hl2 := box_lt HbE.out
      clear A0 A1 A2 A3 c0 c1 c2
      go_wp2
      go_quiet (fail)
      go_wp2
      go_ret2
      exact ⟨rfl, HB2.out.trans ((below_drewN (Below.refl _ _) _).mono HB2.out.size)⟩
end
section
variable {w0 w w' : World} {r : Nat} {G : Nat → Prop} {s : Sl10} {es : List EntV} {L L' : LG}
structure RTurns13 (w0 w : World) (r : Nat) (G : Nat → Prop) (L' : LG) (w' : World) : Prop where
  log : ∃ s es, RfG w0 w' r (more8 G w w') s es L'
  turn : Turn (fun k => k = r ∨ G k) w w'
theorem RfG.wide {H : Nat → Prop} (h : RfG w0 w r G s es L) (hg : ∀ k, G k → H k) (ho : ∀ k, H k → w0.heap.size ≤ k ∧ k < w.heap.size) : RfG w0 w r H s es L := ⟨h.obj, h.n, h.c, h.nl, fun hc => by
    obtain ⟨g, o, a, h1, h2, h3⟩ := h.at' hc
    exact ⟨g, o, a, h1, hg g h2, h3⟩, h.all, h.bel, fun k hk => by
    rcases hk with hk | hk
    · exact h.own k (.inl hk)
    · exact ho k hk, h.map, h.inv, h.top, h.sz⟩
theorem RTurns13.of_below (h : RfG w0 w r G s es L) (hb : Below w.heap.size w w') : RTurns13 w0 w r G L w' := by
  have hz := hb.size
  have hz0 := h.bel.size
  refine ⟨⟨s, es, (h.below hb).wide (fun _ h => .inl h) fun k hk => ?_⟩, Turn.of_below hb (Nat.le_refl _)⟩
  rcases hk with hk | hk
  · have := h.own k (.inr hk); omega
  · omega
theorem RfG.upd (h : RfG w0 w r G s es L) (hg : w.grownBy w' (some r)) (ho : w'.heap[r]? = some (.cells (rfArr L' s) 38 (0, 0))) (hl : L'.l = L.l) (hI : L'.Inv) (ht : L'.end ≤ 1125899906842624) : RfG w0 w' r G s es L' := by
  have hz := hg.size
  refine ⟨ho, h.n, h.c, h.nl, fun hc => ?_, h.all, h.bel.trans ⟨hg.os, hg.tape, hg.output, Nat.le_trans (Nat.le_refl _) hz, fun k hk => hg.block k (by have := h.bel.size; omega) fun e => by have := (h.own r (.inl rfl)).1; have := Option.some.inj e; omega⟩, fun k hk => ⟨(h.own k hk).1, Nat.lt_of_lt_of_le (h.own k hk).2 hz⟩, by rw [hl]; exact h.map, hI, ht, h.sz⟩
  obtain ⟨g, o, a, h1, h2, h3, h4⟩ := h.at' hc
  refine ⟨g, o, a, h1, h2, (hg.block g (box_lt h3) fun e => ?_).trans h3, h4⟩
  have e' : g = r := Option.some.inj e
  have h5 := h.obj
  rw [← e', h3] at h5
  simp only [Option.some.injEq, Obj.cells.injEq] at h5
  exact absurd h5.2.1 (by decide)
theorem RTurns13.of_set {wa : World} (hw0 : w0.heap.size ≤ w.heap.size) (hb : Below w.heap.size w wa) (h0 : RfG w0 wa r G s es L) (hg : wa.grownBy w' (some r)) (h : RfG w0 w' r G s es L') (_hlt : ∀ k, G k → k < w.heap.size) : RTurns13 w0 w r G L' w' := by
  have hz := hb.size
  have hz2 := hg.size
  have hz0 := h0.bel.size
  refine ⟨⟨s, es, h.wide (fun _ h => .inl h) fun k hk => ?_⟩, (Turn.of_below hb (Nat.le_refl _)).grown hg fun _ hk => .inl (.inl (Option.some.inj hk).symm)⟩
  rcases hk with hk | hk
  · have h1 := h0.own k (.inr hk)
    omega
  · omega

set_option maxRecDepth 100000 in
set_option maxHeartbeats 1000000 in
theorem rterm13_any (h : RfG w0 w r G s es L) (i : Int) :
    Calls Try.prog 41 #[.pointer (some ⟨r, 0, none⟩), .int .i64 i] w fun e w' => e = .returned (.tuple #[.int .i64 (L.term i).1, .int .i64 (L.term i).2]) ∧ Below w.heap.size w w' := by
  have kl := rlast13_any h
  have HH : Hid (RfG w0 w r G s es L) := h
  by_cases h1 : i < L.ix
  · have HF : Hid (L.term i = (0, 11)) := if_pos h1
    rw [HF.out]
    clear h
    go_enter Try.func41, Try.ntmps41
    go_wp2_with fail
    refine kl.mono ?_
    rintro _ w1 ⟨rfl, hb1⟩
    obtain ⟨c0, -⟩ := (HH.out.below hb1).cells
    have hlt := (HH.out.below hb1).lt
    clear kl
    go_wp2
    go_ret2
    exact ⟨rfl, hb1⟩
  by_cases h2 : L.end < i
  · have HF : Hid (L.term i = (0, 6)) := (if_neg h1).trans (if_pos h2)
    rw [HF.out]
    clear h
    go_enter Try.func41, Try.ntmps41
    go_wp2_with fail
    refine kl.mono ?_
    rintro _ w1 ⟨rfl, hb1⟩
    obtain ⟨c0, -⟩ := (HH.out.below hb1).cells
    have hlt := (HH.out.below hb1).lt
    clear kl
    go_wp2
    go_ret2
    exact ⟨rfl, hb1⟩
  by_cases h3 : i = L.ix
  · subst h3
    have HF : Hid (L.term L.ix = (L.t0, 0)) := LG.term_base
    rw [HF.out]
    clear h
    go_enter Try.func41, Try.ntmps41
    go_wp2_with fail
    refine kl.mono ?_
    rintro _ w1 ⟨rfl, hb1⟩
    obtain ⟨c0, c1, -⟩ := (HH.out.below hb1).cells
    have hlt := (HH.out.below hb1).lt
    clear kl
    go_wp2
    go_ret2
    exact ⟨rfl, hb1⟩
  obtain ⟨x0, x1, he, e1, n1, -⟩ := h.nums
  obtain ⟨j, hj⟩ : ∃ j : Nat, i = L.ix + j + 1 := ⟨(i - L.ix - 1).toNat, by omega⟩
  have hjn : j < s.n := by omega
  have HF : Hid (L.term i = ((es.getD j noEV).t, 0)) := by
    rw [hj, Hid, LG.term_at (by rw [h.len]; exact hjn), ← entGet13 h.map (by rw [h.len]; exact hjn)]
    rfl
  rw [HF.out]
  have h3' : (i == L.ix) = false := by rw [beq_eq_false_iff_ne]; exact h3
  have w1 : IntKind.i64.wrap (i - L.ix) = (j : Int) + 1 := by rw [IntKind.wrap_i64]; omega
  have w2 : IntKind.i64.wrap ((j : Int) + 1 - 1) = (j : Int) := by rw [IntKind.wrap_i64]; omega
  have hcc := h.c
  clear h hj h3 he e1
  go_enter Try.func41, Try.ntmps41
  go_wp2_with fail
  refine kl.mono ?_
  rintro _ w1 ⟨rfl, hb1⟩
  have hR := HH.out.below hb1
  obtain ⟨c0, c1, c2, -⟩ := hR.cells
  have hlt := hR.lt
  obtain ⟨g, o, hp, hg, hc⟩ := hR.has.at' (by omega)
  have ct : w1.cell? ⟨g, o + j * 13 + 1, none⟩ = some (.int .i64 (es.getD j noEV).t) := hc j hjn 1 (by decide)
  rw [hp] at c2
  clear kl hR hc
  go_wp2
  go_quiet (fail)
  go_wp2
  go_ret2
  exact ⟨rfl, hb1.trans ((below_drewN (Below.refl _ _) _).mono hb1.size)⟩
end
section
variable {w0 w w' : World} {r : Nat} {G : Nat → Prop} {s : Sl10} {es : List EntV} {L L' : LG}

set_option maxRecDepth 100000 in
set_option maxHeartbeats 1000000 in
theorem rnewer13_any (h : RfG w0 w r G s es L) (i t : Int) :
    Calls Try.prog 44 #[.pointer (some ⟨r, 0, none⟩), .int .i64 i, .int .i64 t] w fun e w' => e = .returned (.bool (L.newer i t)) ∧ Below w.heap.size w w' := by
  have k1 := rlast13_any h
  have HF : Hid (L.newer i t = (decide (L.endT < t) || (decide (t = L.endT) && decide (L.end ≤ i)))) := rfl
  clear h
  generalize L.newer i t = q at *
  generalize L.endT = et at *
  generalize L.end = ee at *
  go_enter Try.func44, Try.ntmps44
  go_wp2_with fail
  refine k1.mono ?_
  rintro _ w1 ⟨rfl, hb1⟩
  clear k1
  by_cases h1 : et < t
  · go_wp2
    go_ret
    exact ⟨by rw [HF.out]; simp [h1], hb1⟩
  · by_cases h2 : t = et
    · subst h2
      go_wp2
      go_ret
      exact ⟨by rw [HF.out]; simp, hb1⟩
    · have h2' : (t == et) = false := by simpa using h2
      go_wp2
      go_ret
      exact ⟨by rw [HF.out]; simp [h2], hb1⟩

set_option maxRecDepth 100000 in
set_option maxHeartbeats 1000000 in
theorem rcommit13_any (h : RfG w0 w r G s es L) (i : Int) :
    Calls Try.prog 30 #[.pointer (some ⟨r, 0, none⟩), .int .i64 i] w fun e w' => e = .returned (.bool (L.commit i).1) ∧ RTurns13 w0 w r G (L.commit i).2 w' := by
  have kl := rlast13_any h
  have HH : Hid (RfG w0 w r G s es L) := h
  by_cases h1 : i ≤ L.done
  · have HF : Hid (L.commit i = (false, L)) := if_neg (by omega)
    clear h
    rw [HF.out]
    go_enter Try.func30, Try.ntmps30
    go_wp2_with fail
    refine kl.mono ?_
    rintro _ w1 ⟨rfl, hb1⟩
    obtain ⟨-, -, -, c3, -⟩ := (HH.out.below hb1).cells
    have hlt := (HH.out.below hb1).lt
    clear kl
    go_wp2
    go_ret
    exact ⟨rfl, .of_below HH.out hb1⟩
  by_cases h2 : L.end < i
  · have HF : Hid (L.commit i = (false, L)) := if_neg (by omega)
    clear h
    rw [HF.out]
    go_enter Try.func30, Try.ntmps30
    go_wp2_with fail
    refine kl.mono ?_
    rintro _ w1 ⟨rfl, hb1⟩
    obtain ⟨-, -, -, c3, -⟩ := (HH.out.below hb1).cells
    have hlt := (HH.out.below hb1).lt
    clear kl
    go_wp2
    go_ret
    exact ⟨rfl, .of_below HH.out hb1⟩
  have HF : Hid (L.commit i = (true, { L with done := i })) := if_pos ⟨by omega, by omega⟩
  have hI := h.inv.commit i
  rw [HF.out] at hI ⊢
  have HI : Hid _ := hI
  clear hI h
  go_enter Try.func30, Try.ntmps30
  go_wp2_with fail
  refine kl.mono ?_
  rintro _ w1 ⟨rfl, hb1⟩
  have hL1 := HH.out.below hb1
  obtain ⟨-, -, -, c3, -⟩ := hL1.cells
  have f3 := frozen9 hL1.obj 3
  have hlt := hL1.lt
  have hg := grown_set w1 r 3 (.int .i64 i)
  have hob : (w1.setCell ⟨r, 3, none⟩ (.int .i64 i)).heap[r]? = some (.cells (rfArr { L with done := i } s) 38 (0, 0)) := set_block9 hL1.obj 3 _ (by show 3 < 6; decide)
  have hL2 := hL1.upd hg hob rfl HI.out hL1.top
  have HT : Hid (RTurns13 w0 w r G { L with done := i } (w1.setCell ⟨r, 3, none⟩ (.int .i64 i))) := .of_set HH.out.bel.size hb1 hL1 hg hL2 fun k hk => (HH.out.own k (.inr hk)).2
  clear hL1 hL2 hg hob kl
  go_wp2
  go_ret
  exact ⟨rfl, HT.out⟩

set_option maxRecDepth 100000 in
set_option maxHeartbeats 1000000 in
theorem rsure13_any (h : RfG w0 w r G s es L) (i : Int) :
    Calls Try.prog 32 #[.pointer (some ⟨r, 0, none⟩), .int .i64 i] w fun e w' => e = .returned (.tuple #[]) ∧ RTurns13 w0 w r G (L.sure i) w' := by
  have kl := rlast13_any h
  have HH : Hid (RfG w0 w r G s es L) := h
  obtain ⟨q, hq⟩ : ∃ q, q = if L.end < i then L.end else i := ⟨_, rfl⟩
  by_cases hs : q ≤ L.safe
  · have HF : Hid (L.sure i = L) := by
      unfold Hid LG.sure
      rw [← hq, if_neg (by omega)]
    clear h
    rw [HF.out]
    go_enter Try.func32, Try.ntmps32
    go_wp2_with fail
    refine kl.mono ?_
    rintro _ w1 ⟨rfl, hb1⟩
    obtain ⟨-, -, -, -, -, c5⟩ := (HH.out.below hb1).cells
    have hlt := (HH.out.below hb1).lt
    clear kl
    by_cases h2 : L.end < i
    · rw [if_pos h2] at hq
      subst hq
      go_wp2
      go_end0
      exact ⟨rfl, .of_below HH.out hb1⟩
    · rw [if_neg h2] at hq
      subst hq
      go_wp2
      go_end0
      exact ⟨rfl, .of_below HH.out hb1⟩
  have HF : Hid (L.sure i = { L with safe := q }) := by
    unfold Hid LG.sure
    rw [← hq, if_pos (by omega)]
  have hI := h.inv.sure i
  rw [HF.out] at hI ⊢
  have HI : Hid _ := hI
  clear hI h
  go_enter Try.func32, Try.ntmps32
  go_wp2_with fail
  refine kl.mono ?_
  rintro _ w1 ⟨rfl, hb1⟩
  have hL1 := HH.out.below hb1
  obtain ⟨-, -, -, -, -, c5⟩ := hL1.cells
  have f5 := frozen9 hL1.obj 5
  have hlt := hL1.lt
  have hg := grown_set w1 r 5 (.int .i64 q)
  have hob : (w1.setCell ⟨r, 5, none⟩ (.int .i64 q)).heap[r]? = some (.cells (rfArr { L with safe := q } s) 38 (0, 0)) := set_block9 hL1.obj 5 _ (by show 5 < 6; decide)
  have hL2 := hL1.upd hg hob rfl HI.out hL1.top
  have HT : Hid (RTurns13 w0 w r G { L with safe := q } (w1.setCell ⟨r, 5, none⟩ (.int .i64 q))) := .of_set HH.out.bel.size hb1 hL1 hg hL2 fun k hk => (HH.out.own k (.inr hk)).2
  clear hL1 hL2 hg hob kl
  by_cases h2 : L.end < i
  · rw [if_pos h2] at hq
    subst hq
    go_wp2
    go_end0
    exact ⟨rfl, HT.out⟩
  · rw [if_neg h2] at hq
    subst hq
    go_wp2
    go_end0
    exact ⟨rfl, HT.out⟩
end
section
variable {w0 w w' : World} {r : Nat} {G : Nat → Prop} {s : Sl10} {es : List EntV} {L L' : LG}
theorem hintN_low13 {L : LG} {t n : Int} (h : n ≤ L.ix) : L.hintN t (n - L.ix).toNat = L.ix := by
  rw [show (n - L.ix).toNat = 0 by omega]
  rfl
theorem hintN_step13 {L : LG} {t n : Int} (h : L.ix < n) : L.hintN t (n - L.ix).toNat = if (L.term n).1 ≤ t then n else L.hintN t (n - 1 - L.ix).toNat := by
  obtain ⟨k, rfl⟩ : ∃ k : Nat, n = L.ix + k + 1 := ⟨(n - L.ix - 1).toNat, by omega⟩
  rw [show (L.ix + (k : Int) + 1 - L.ix).toNat = k + 1 by omega, show (L.ix + (k : Int) + 1 - 1 - L.ix).toNat = k by omega]
  rfl

set_option maxRecDepth 100000 in
set_option maxHeartbeats 1000000 in
theorem rhint13_any (h : RfG w0 w r G s es L) (i t : Int) (hi : inI i) :
    Calls Try.prog 45 #[.pointer (some ⟨r, 0, none⟩), .int .i64 i, .int .i64 t] w fun e w' => e = .returned (.int .i64 (L.hint i t)) ∧ Below w.heap.size w w' := by
  have kl := rlast13_any h
  have HH : Hid (RfG w0 w r G s es L) := h
  have HN : Hid (Nums13 L s.n) := h.nums
  have hi1 := hi.1
  obtain ⟨q, HQ⟩ : ∃ q, Hid (L.hint i t = q) := ⟨_, rfl⟩
  rw [HQ.out]
  obtain ⟨m, hm⟩ : ∃ m, m = if i < L.end then i else L.end := ⟨_, rfl⟩
  have HM : Hid (L.hintN t (m - L.ix).toNat = q) := by rw [hm]; exact HQ.out
  have HE : Hid (m ≤ L.end ∧ -9223372036854775808 ≤ m) := by
    have h1 := HN.out.x0
    have h2 := HN.out.end'
    rw [hm, Hid]
    split <;> omega
  clear h HQ
  go_enter Try.func45, Try.ntmps45
  go_wp2_with fail
  refine kl.mono ?_
  rintro _ w1 ⟨rfl, hb1⟩
  clear kl
  by_cases hlt : i < L.end
  all_goals
    first
    | (rw [if_pos hlt] at hm)
    | (rw [if_neg hlt] at hm)
    subst hm
    go_wp2
    go_loopw [7, 9, 10] (fun s4 s6 s7 wr => ∃ n : Int, s4 = .int .i64 n ∧ n ≤ L.end ∧ Hid (L.hintN t (n - L.ix).toNat = q ∧ -9223372036854775808 ≤ n) ∧ Below w.heap.size w wr) (fun s4 _ _ _ => (intOf s4 - L.ix).toNat)
    case atStart => exact ⟨_, rfl, HE.out.1, ⟨HM.out, HE.out.2⟩, hb1⟩
    case round =>
      obtain ⟨n, rfl, hne, HI, hb⟩ := hrel
      have hR := HH.out.below hb
      obtain ⟨c0, -⟩ := hR.cells
      have hl := hR.lt
      have kt := rterm13_any hR n
      clear hR
      by_cases hn : L.ix < n
      · have HS : Hid ((if (L.term n).1 ≤ t then n else L.hintN t (n - 1 - L.ix).toNat) = q) := by rw [Hid, ← hintN_step13 hn]; exact HI.out.1
        generalize (L.term n).1 = tn at *
        generalize (L.term n).2 = en at *
        have w1 : IntKind.i64.wrap (n - 1) = n - 1 := by
          have h1 := HN.out.x0
          have h2 := HN.out.e1
          rw [IntKind.wrap_i64]
          omega
        go_wp2_with fail
        refine kt.mono ?_
        rintro _ w3 ⟨rfl, hb3⟩
        have hb4 := hb.trans (hb3.mono hb.size)
        have hR := HH.out.below hb4
        obtain ⟨d0, -⟩ := hR.cells
        have hl3 := hR.lt
        clear hR kt
        by_cases ht : tn ≤ t
        · have HF : Hid (n = q) := by have := HS.out; rwa [if_pos ht] at this
          have hnx : ¬ n < L.ix := by omega
          clear HS
          go_wp2
          go_ret
          exact ⟨by rw [HF.out]; rfl, hb4⟩
        · have HF : Hid (L.hintN t (n - 1 - L.ix).toNat = q) := by have := HS.out; rwa [if_neg ht] at this
          clear HS
          go_wp2
          go_roundw
          case rel => exact ⟨n - 1, by first | rfl | go_num, by omega, ⟨HF.out, by have := HN.out.x0; omega⟩, hb4⟩
          case measure => simp only [intOf]; omega
      · have HF : Hid (L.ix = q) := by rw [Hid, ← HI.out.1, hintN_low13 (by omega)]
        clear kt
        by_cases hn2 : n < L.ix
        · go_wp2
          go_ret
          exact ⟨by rw [HF.out]; rfl, hb⟩
        · obtain rfl : n = L.ix := by omega
          go_wp2
          go_ret
          exact ⟨by rw [HF.out]; rfl, hb⟩
end
def got13 (es : List EntV) (j0 m j : Nat) : List EntV := ((es.take j).drop j0).take m
theorem got13_step {es : List EntV} {j0 m j : Nat} (hj : j < es.length) : got13 es j0 m (j + 1) = if j0 ≤ j ∧ (got13 es j0 m j).length < m then got13 es j0 m j ++ [es.getD j noEV] else got13 es j0 m j := by
  have hg : es.getD j noEV = es[j] := by rw [List.getD_eq_getElem?_getD, List.getElem?_eq_getElem hj, Option.getD_some]
  unfold got13
  rw [hg, List.take_succ_eq_append_getElem hj]
  have hl : (es.take j).length = j := by rw [List.length_take]; omega
  by_cases h1 : j0 ≤ j
  · rw [List.drop_append_of_le_length (by omega)]
    have hd : ((es.take j).drop j0).length = j - j0 := by rw [List.length_drop, hl]
    by_cases h2 : j - j0 < m
    · rw [if_pos ⟨h1, by rw [List.length_take, hd]; omega⟩, List.take_of_length_le (l := _ ++ _) (by rw [List.length_append, hd]; simp; omega), List.take_of_length_le (l := List.drop j0 (List.take j es)) (by rw [hd]; omega)]
    · rw [if_neg (by rw [List.length_take, hd]; omega), List.take_append_of_le_length (by rw [hd]; omega)]
  · rw [if_neg (by omega), List.drop_eq_nil_of_le (by rw [List.length_append, hl]; simp; omega), List.drop_eq_nil_of_le (by omega)]
theorem got13_all {es : List EntV} {j0 m : Nat} : got13 es j0 m es.length = (es.drop j0).take m := by
  unfold got13
  rw [List.take_length]
theorem got13_len {es : List EntV} {j0 m j : Nat} : (got13 es j0 m j).length ≤ m ∧ (got13 es j0 m j).length ≤ j := by
  unfold got13
  rw [List.length_take, List.length_drop, List.length_take]
  omega
theorem got13_mem {es : List EntV} {j0 m j : Nat} : ∀ e ∈ got13 es j0 m j, e ∈ es := fun _ he => List.mem_of_mem_take (List.mem_of_mem_drop (List.mem_of_mem_take he))
theorem row_n13 {w : World} {B : Nat} {e : TypeId} {z k n c : Nat} {p : Option Addr} {xs : List Value} (h : w.ownsRow B e z (.slice p n c) k xs) : n = k := by
  rcases h.2 with ⟨hv, h0⟩ | ⟨g, cap, cur, hv, _⟩
  · simp only [Value.slice.injEq] at hv
    omega
  · simp only [Value.slice.injEq] at hv
    omega
structure Halt13 (p : Prop) : Prop where
  out : p
section
variable {w0 w w' : World} {r : Nat} {G : Nat → Prop} {s : Sl10} {es : List EntV} {L L' : LG}

set_option maxRecDepth 100000 in
set_option maxHeartbeats 1000000 in
theorem rslice13_any (h : RfG w0 w r G s es L) (f m : Int) :
    Calls Try.prog 42 #[.pointer (some ⟨r, 0, none⟩), .int .i64 f, .int .i64 m] w fun e w' => ∃ (s' : Sl10) (ys : List EntV), e = .returned (.slice s'.p s'.n s'.c) ∧ w'.ownsRow w.heap.size 51 13 (.slice s'.p s'.n s'.c) ys.length (entsV ys) ∧ (∀ y ∈ ys, y ∈ es) ∧ ys.map EntV.e = L.slice f m ∧ Below w.heap.size w w' := by
  obtain ⟨c0, c1, c2, -⟩ := h.cells
  have hlt := h.lt
  by_cases h1 : f ≤ L.ix
  · have HF : Hid (L.slice f m = []) := if_pos h1
    rw [HF.out]
    clear h
    go_enter Try.func42, Try.ntmps42
    go_wp2
    go_ret
    exact ⟨nilS10, [], rfl, World.ownsRow_nil _ _ _ _, (fun _ h => by cases h), rfl, Below.refl _ _⟩
  obtain ⟨j0, rfl⟩ : ∃ j : Nat, f = L.ix + j + 1 := ⟨(f - L.ix - 1).toNat, by omega⟩
  have HH : Hid (RfG w0 w r G s es L) := h
  have HN : Hid (Nums13 L s.n) := h.nums
  have HE : Hid (HasE w s es) := h.has
  have hnn : Hid (es.length = s.n) := h.n
  have hcc := h.c
  have HF : Hid ((got13 es j0 m.toNat s.n).map EntV.e = L.slice (L.ix + j0 + 1) m) := by
    rw [Hid, ← hnn.out, got13_all, List.map_take, List.map_drop, h.map]
    unfold LG.slice
    rw [if_neg h1, show (L.ix + (j0 : Int) + 1 - L.ix - 1).toNat = j0 by omega]
  generalize L.slice (L.ix + j0 + 1) m = R at *
  have HIx : Hid (∀ j, j < s.n → (es.getD j noEV).i = L.ix + j + 1) := fun j hj => by
    have hjl : j < L.l.length := by rw [h.len]; exact hj
    have h1 := (chain_at13 h.inv.row hjl).2
    rw [← entGet13 h.map hjl] at h1
    exact h1
  clear h
  obtain ⟨ff, HFF⟩ : ∃ ff, Hid (L.ix + (j0 : Int) + 1 = ff) := ⟨_, rfl⟩
  rw [HFF.out] at h1 ⊢
  go_enter Try.func42, Try.ntmps42
  go_wp2
  go_loopw [7, 21] (fun s7 s21 wr => ∃ (j : Nat) (p : Option Addr) (c : Nat), s7 = .slice p (got13 es j0 m.toNat j).length c ∧ s21 = .int .i64 (j : Nat) ∧ j ≤ s.n ∧ Hid (wr.ownsRow w.heap.size 51 13 (.slice p (got13 es j0 m.toNat j).length c) (got13 es j0 m.toNat j).length (entsV (got13 es j0 m.toNat j))) ∧ Below w.heap.size w wr) (fun _ s21 _ => s.n - (intOf s21).toNat)
  case atStart =>
    have h0 : got13 es j0 m.toNat 0 = [] := by unfold got13; simp
    exact ⟨0, none, 0, by rw [h0]; rfl, rfl, Nat.zero_le _, by rw [Hid, h0]; exact World.ownsRow_nil _ _ _ _, Below.refl _ _⟩
  case round =>
    obtain ⟨j, p, c, rfl, rfl, hj, HO, hb⟩ := hrel
    by_cases hjn : j < s.n
    · have hEr := HE.out.below hb
      obtain ⟨g, o, hp, hg, hld⟩ := hEr.ld hjn
      have hei : Hid _ := HIx.out j hjn
      have HSt := got13_step (es := es) (j0 := j0) (m := m.toNat) (j := j) (by rw [hnn.out]; exact hjn)
      have HSt : Hid _ := HSt
      have HLen : Hid ((got13 es j0 m.toNat j).length ≤ j) := got13_len.2
      have HMem : Hid (es.getD j noEV ∈ es) := getD_memE (by rw [hnn.out]; exact hjn)
      clear hEr
      generalize got13 es j0 m.toNat j = ys at *
      generalize es.getD j noEV = e at *
      rw [hp] at *
      have hbE := heap_alloc_new wr (.cells #[.int .i64 0, .int .i64 0, .int .i64 0, .int .i64 0, .int .i64 0, .int .i64 0, .string ⟨#[]⟩, .string ⟨#[]⟩, .string ⟨#[]⟩, .string ⟨#[]⟩, .int .i64 0, .slice none 0 0, .slice none 0 0] 51)
      have hth := there_box hbE 0 13 (Nat.le_refl _)
      have hst := stE_arr 0 e hth
      have hbE2 := setE_box e hbE rfl
      have hB2 : Below wr.heap.size wr ((wr.alloc (.cells #[.int .i64 0, .int .i64 0, .int .i64 0, .int .i64 0, .int .i64 0, .int .i64 0, .string ⟨#[]⟩, .string ⟨#[]⟩, .string ⟨#[]⟩, .string ⟨#[]⟩, .int .i64 0, .slice none 0 0, .slice none 0 0] 51)).setCells wr.heap.size 0 e.arr.toList) := setCells_below (Nat.le_refl _) _ _ ((Below.refl _ _).alloc (Nat.le_refl _) _)
      have hld2 := ldE_box _ _ _ _ _ hbE2 rfl
      have hBw : Hid (Below w.heap.size w ((wr.alloc (.cells #[.int .i64 0, .int .i64 0, .int .i64 0, .int .i64 0, .int .i64 0, .int .i64 0, .string ⟨#[]⟩, .string ⟨#[]⟩, .string ⟨#[]⟩, .string ⟨#[]⟩, .int .i64 0, .slice none 0 0, .slice none 0 0] 51)).setCells wr.heap.size 0 e.arr.toList)) := hb.trans (hB2.mono hb.size)
      have HO2 : Hid (((wr.alloc (.cells #[.int .i64 0, .int .i64 0, .int .i64 0, .int .i64 0, .int .i64 0, .int .i64 0, .string ⟨#[]⟩, .string ⟨#[]⟩, .string ⟨#[]⟩, .string ⟨#[]⟩, .int .i64 0, .slice none 0 0, .slice none 0 0] 51)).setCells wr.heap.size 0 e.arr.toList).ownsRow w.heap.size 51 13 (.slice p ys.length c) ys.length (entsV ys)) := row_below HO.out hB2 (Nat.le_refl _)
      have hl2 := box_lt hbE2
      have y0 : ((wr.alloc (.cells #[.int .i64 0, .int .i64 0, .int .i64 0, .int .i64 0, .int .i64 0, .int .i64 0, .string ⟨#[]⟩, .string ⟨#[]⟩, .string ⟨#[]⟩, .string ⟨#[]⟩, .int .i64 0, .slice none 0 0, .slice none 0 0] 51)).setCells wr.heap.size 0 e.arr.toList).cell? ⟨wr.heap.size, 0, none⟩ = some (.int .i64 e.i) := box_cell hbE2 0
      have w2 : IntKind.i64.wrap ((j : Int) + 1) = (j : Int) + 1 := by have := HN.out.n1; rw [IntKind.wrap_i64]; omega
      clear hB2 HO
      go_upto_region 7 with fail
      generalize (wr.alloc (.cells #[.int .i64 0, .int .i64 0, .int .i64 0, .int .i64 0, .int .i64 0, .int .i64 0, .string ⟨#[]⟩, .string ⟨#[]⟩, .string ⟨#[]⟩, .string ⟨#[]⟩, .int .i64 0, .slice none 0 0, .slice none 0 0] 51)).setCells wr.heap.size 0 e.arr.toList = W2 at *
      clear hld hth hst hbE
      by_cases h2 : ff ≤ e.i
      · by_cases h3 : (ys.length : Int) < m
        · have HG : Hid (got13 es j0 m.toNat (j + 1) = ys ++ [e]) := by
            have h4 := HFF.out
            have h5 := hei.out
            rw [Hid, HSt.out, if_pos ⟨by omega, by omega⟩]
          have hz0 := hb.size
          have A5 : w.heap.size ≤ W2.heap.size := hBw.out.size
          go_upto_region 8 with fail
          clear HSt hbE2 y0
          obtain ⟨XA, hXA⟩ : ∃ XA, W2.alloc (.cells e.arr 51) = XA := ⟨_, rfl⟩
          have hba : Below W2.heap.size W2 XA := by rw [← hXA]; exact (Below.refl _ _).alloc (Nat.le_refl _) _
          have hR : HasR XA 13 (.slice (some ⟨W2.heap.size, 0, none⟩) 1 1) 1 e.arr.toList := by rw [← hXA]; exact hasR_lit (size := 13) (xs := e.arr.toList) (e := 51) (f := (0, 0)) (k := W2.heap.size) (heap_alloc_new W2 _) 1 1 rfl (Nat.le_refl _)
          have hrow := row_below HO2.out hba (Nat.le_refl _)
          have hzz : w.heap.size ≤ XA.heap.size := Nat.le_trans A5 hba.size
          have HBa : Hid (Below w.heap.size w XA) := hBw.out.trans (hba.mono A5)
          have hle := HLen.out
          have hn1 := HN.out.n1
          clear hba HO2 hBw
          rw [← hXA] at hR hrow hzz HBa
          have HR : Hid _ := hR
          have HRow : Hid _ := hrow
          have HZ : Hid _ := hzz
          clear hR hrow hzz
          obtain ⟨xi, xt, xk, ⟨ck, cs, cq, ckey, cold, cval, cunt, clim⟩, ⟨⟨p1, n1, d0⟩, ⟨q1, m1, d1⟩, f1⟩⟩ := e
          have hld3 : (ldE (.pointer (some ⟨wr.heap.size, 0, none⟩))).run Try.prog W2 = .ok (.agg #[.int .i64 xi, .int .i64 xt, .int .i64 xk, .int .i64 ck, .int .i64 cs, .int .i64 cq, .string ckey, .string cold, .string cval, .string cunt, .int .i64 clim, .slice p1 n1 d0, .slice q1 m1 d1]) W2 := hld2
          clear hld2
          have hR : HasR (W2.alloc (.cells #[.int .i64 xi, .int .i64 xt, .int .i64 xk, .int .i64 ck, .int .i64 cs, .int .i64 cq, .string ckey, .string cold, .string cval, .string cunt, .int .i64 clim, .slice p1 n1 d0, .slice q1 m1 d1] 51)) 13 (.slice (some ⟨W2.heap.size, 0, none⟩) 1 1) 1 [.int .i64 xi, .int .i64 xt, .int .i64 xk, .int .i64 ck, .int .i64 cs, .int .i64 cq, .string ckey, .string cold, .string cval, .string cunt, .int .i64 clim, .slice p1 n1 d0, .slice q1 m1 d1] := HR.out
          have hrow : (W2.alloc (.cells #[.int .i64 xi, .int .i64 xt, .int .i64 xk, .int .i64 ck, .int .i64 cs, .int .i64 cq, .string ckey, .string cold, .string cval, .string cunt, .int .i64 clim, .slice p1 n1 d0, .slice q1 m1 d1] 51)).ownsRow w.heap.size 51 13 (.slice p ys.length c) ys.length (entsV ys) := HRow.out
          have hzz : w.heap.size ≤ (W2.alloc (.cells #[.int .i64 xi, .int .i64 xt, .int .i64 xk, .int .i64 ck, .int .i64 cs, .int .i64 cq, .string ckey, .string cold, .string cval, .string cunt, .int .i64 clim, .slice p1 n1 d0, .slice q1 m1 d1] 51)).heap.size := HZ.out
          have h1c : ∀ u ∈ ([.int .i64 xi, .int .i64 xt, .int .i64 xk, .int .i64 ck, .int .i64 cs, .int .i64 cq, .string ckey, .string cold, .string cval, .string cunt, .int .i64 clim, .slice p1 n1 d0, .slice q1 m1 d1] : List Value), u.oneCell' = true := earr_cell ⟨xi, xt, xk, ⟨ck, cs, cq, ckey, cold, cval, cunt, clim⟩, ⟨⟨p1, n1, d0⟩, ⟨q1, m1, d1⟩, f1⟩⟩
          clear HR HRow HZ
          go_wp2_with (at_builtin; refine ap_row elemE11 _ rfl _ _ rfl w.heap.size _ _ ys.length 1 (entsV ys) [.int .i64 xi, .int .i64 xt, .int .i64 xk, .int .i64 ck, .int .i64 cs, .int .i64 cq, .string ckey, .string cold, .string cval, .string cunt, .int .i64 clim, .slice p1 n1 d0, .slice q1 m1 d1] rfl rfl hR h1c hrow (by omega) (by omega) hzz ?_; intro v' w' hown' hgrow hwh; refine Halt13.out ?_)
          obtain ⟨p', n', c', rfl⟩ := row_shape11 hown'
          obtain rfl := row_n13 hown'
          have hgl : (got13 es j0 m.toNat (j + 1)).length = ys.length + 1 := by rw [HG.out, List.length_append]; rfl
          have HO3 : Hid (w'.ownsRow w.heap.size 51 13 (.slice p' (got13 es j0 m.toNat (j + 1)).length c') (got13 es j0 m.toNat (j + 1)).length (entsV (got13 es j0 m.toNat (j + 1)))) := by
            rw [Hid, hgl, HG.out, entsV_append, entsV_one]
            exact hown'
          have HB3 : Hid (Below w.heap.size w w') := HBa.out.trans ((Below.refl _ _).grown hgrow hzz fun k hk => (World.ownsRow.lt hrow k hk).1)
          clear hown' hgrow hwh hrow hR
          constructor
          go_wp2
          go_roundw
          case rel => exact ⟨j + 1, p', c', by rw [hgl], by go_num, by omega, HO3, HB3.out⟩
          case measure => simp only [intOf]; omega
        · have HG : Hid (got13 es j0 m.toNat (j + 1) = ys) := by
            have h4 := HFF.out
            have h5 := hei.out
            rw [Hid, HSt.out, if_neg (by omega)]
          clear HSt
          go_wp2
          go_roundw
          case rel => exact ⟨j + 1, p, c, by rw [HG.out], by go_num, by omega, by rw [HG.out]; exact HO2, hBw.out⟩
          case measure => simp only [intOf]; omega
      · have HG : Hid (got13 es j0 m.toNat (j + 1) = ys) := by
          have h4 := HFF.out
          have h5 := hei.out
          rw [Hid, HSt.out, if_neg (by omega)]
        clear HSt
        go_wp2
        go_roundw
        case rel => exact ⟨j + 1, p, c, by rw [HG.out], by go_num, by omega, by rw [HG.out]; exact HO2, hBw.out⟩
        case measure => simp only [intOf]; omega
    · obtain rfl : j = s.n := by omega
      go_wp2
      go_ret
      exact ⟨⟨p, (got13 es j0 m.toNat s.n).length, c⟩, got13 es j0 m.toNat s.n, rfl, HO.out, got13_mem, HF.out, hb⟩
end
section
variable {w0 w w' : World} {r : Nat} {G : Nat → Prop} {s : Sl10} {es : List EntV} {L L' : LG}
structure Gave13 (w : World) (B : Nat) (es : List EntV) (s' : Sl10) (ys : List EntV) (R : List Ent10) : Prop where
  row : w.ownsRow B 51 13 (.slice s'.p s'.n s'.c) ys.length (entsV ys)
  mem : ∀ y ∈ ys, y ∈ es
  map : ys.map EntV.e = R

set_option maxRecDepth 100000 in
set_option maxHeartbeats 1000000 in
theorem runsure13_any (h : RfG w0 w r G s es L) :
    Calls Try.prog 49 #[.pointer (some ⟨r, 0, none⟩)] w fun e w' => ∃ (s' : Sl10) (ys : List EntV), e = .returned (.slice s'.p s'.n s'.c) ∧ Gave13 w' w.heap.size es s' ys L.unsure ∧ Below w.heap.size w w' := by
  obtain ⟨-, -, c2, -, -, c5⟩ := h.cells
  have hlt := h.lt
  obtain ⟨x0, x1, he, e1, n1, d0, d1, u0, u1, s0, s1⟩ := h.nums
  have HF : Hid (L.slice (L.safe + 1) s.n = L.unsure) := by
    unfold LG.unsure
    rw [h.len]
    rfl
  have w1 : IntKind.i64.wrap (L.safe + 1) = L.safe + 1 := by rw [IntKind.wrap_i64]; omega
  have KS : Hid (∀ W, Below w.heap.size w W → Calls Try.prog 42 #[.pointer (some ⟨r, 0, none⟩), .int .i64 (L.safe + 1), .int .i64 (s.n : Nat)] W fun e w' => ∃ (s' : Sl10) (ys : List EntV), e = .returned (.slice s'.p s'.n s'.c) ∧ w'.ownsRow W.heap.size 51 13 (.slice s'.p s'.n s'.c) ys.length (entsV ys) ∧ (∀ y ∈ ys, y ∈ es) ∧ ys.map EntV.e = L.slice (L.safe + 1) s.n ∧ Below W.heap.size W w') := fun W hb => rslice13_any (h.below hb) _ _
  clear h he e1 d0 d1 u0 u1 s0 s1
  go_enter Try.func49, Try.ntmps49
  have KD := KS.out w.drew (below_ad13 (Below.refl _ _))
  go_wp2_with fail
  go_region_law (go_simp; go_at_call 42; refine Calls.mono KD ?_; rintro _ w3 ⟨s', ys, rfl, hrow, hmem, hmap, hb3⟩; have HR : Hid _ := hrow; have HM : Hid _ := hmem; have HP : Hid _ := hmap; have HB : Hid (Below w.heap.size w w3) := (below_ad13 (Below.refl _ _)).trans hb3; clear hrow hmem hmap hb3; dsimp only)
  all_goals
    go_wp2
    go_ret
    exact ⟨s', ys, rfl, ⟨HR.out, HM.out, HP.out.trans HF.out⟩, HB.out⟩

set_option maxRecDepth 100000 in
set_option maxHeartbeats 1000000 in
theorem rapply13_any (h : RfG w0 w r G s es L) (m : Int) :
    Calls Try.prog 35 #[.pointer (some ⟨r, 0, none⟩), .int .i64 m] w fun e w' => ∃ (s' : Sl10) (ys : List EntV), e = .returned (.slice s'.p s'.n s'.c) ∧ Gave13 w' w.heap.size es s' ys (L.apply m).1 ∧ RTurns13 w0 w r G (L.apply m).2 w' := by
  obtain ⟨-, -, c2, c3, c4, -⟩ := h.cells
  have hlt := h.lt
  obtain ⟨x0, x1, he, e1, n1, d0, d1, u0, u1, s0, s1⟩ := h.nums
  have HH : Hid (RfG w0 w r G s es L) := h
  obtain ⟨q, hq⟩ : ∃ q, q = if m < L.done - L.used then m else L.done - L.used := ⟨_, rfl⟩
  have hqa : L.applyN m = q := hq.symm
  have wd : IntKind.i64.wrap (L.done - L.used) = L.done - L.used := by rw [IntKind.wrap_i64]; omega
  by_cases hq1 : q < 1
  · have HF : Hid (L.apply m = ([], L)) := by unfold Hid LG.apply; rw [hqa, if_pos hq1]
    rw [HF.out]
    clear h he e1 d0 d1 u0 u1 s0 s1 hqa
    go_enter Try.func35, Try.ntmps35
    by_cases h2 : m < L.done - L.used
    · rw [if_pos h2] at hq
      subst hq
      go_wp2
      go_quiet (fail)
      go_wp2
      go_ret
      exact ⟨nilS10, [], rfl, ⟨World.ownsRow_nil _ _ _ _, (fun _ h => by cases h), rfl⟩, .of_below HH.out (below_drewN (Below.refl _ _) _)⟩
    · rw [if_neg h2] at hq
      subst hq
      go_wp2
      go_quiet (fail)
      go_wp2
      go_ret
      exact ⟨nilS10, [], rfl, ⟨World.ownsRow_nil _ _ _ _, (fun _ h => by cases h), rfl⟩, .of_below HH.out (below_drewN (Below.refl _ _) _)⟩
  have HF : Hid (L.apply m = (L.slice (L.used + 1) q, { L with used := L.used + q })) := by unfold Hid LG.apply; rw [hqa, if_neg hq1]
  have hI := h.inv.apply m
  rw [HF.out] at hI ⊢
  have HI : Hid _ := hI
  have hqd : q ≤ L.done - L.used := by rw [hq]; split <;> omega
  have w1 : IntKind.i64.wrap (L.used + 1) = L.used + 1 := by rw [IntKind.wrap_i64]; omega
  have w2 : IntKind.i64.wrap (L.used + q) = L.used + q := by rw [IntKind.wrap_i64]; omega
  have KS : Hid (∀ W, Below w.heap.size w W → Calls Try.prog 42 #[.pointer (some ⟨r, 0, none⟩), .int .i64 (L.used + 1), .int .i64 q] W fun e w' => ∃ (s' : Sl10) (ys : List EntV), e = .returned (.slice s'.p s'.n s'.c) ∧ w'.ownsRow W.heap.size 51 13 (.slice s'.p s'.n s'.c) ys.length (entsV ys) ∧ (∀ y ∈ ys, y ∈ es) ∧ ys.map EntV.e = L.slice (L.used + 1) q ∧ Below W.heap.size W w') := fun W hb => rslice13_any (h.below hb) _ _
  clear h he e1 d0 d1 u0 u1 s0 s1 hI hqa
  go_enter Try.func35, Try.ntmps35
  by_cases h2 : m < L.done - L.used
  · rw [if_pos h2] at hq
    subst hq
    go_wp2
    go_quiet (fail)
    rename_i nq
    go_wp2_with fail
    refine (KS.out _ (by first | exact Below.refl _ _ | exact below_drewN (Below.refl _ _) _)).mono ?_
    rintro _ w3 ⟨s', ys, rfl, hrow', hmem, hmap, hb3'⟩
    have hz := (below_drewN (Below.refl w.heap.size w) nq).size
    have hb3 : Below w.heap.size w w3 := (below_drewN (Below.refl _ _) _).trans (hb3'.mono hz)
    have hrow := row_base hrow' hz
    clear hb3' hrow'
    have hL1 := HH.out.below hb3
    obtain ⟨-, -, -, -, e4, -⟩ := hL1.cells
    have f4 := frozen9 hL1.obj 4
    have hl3 := hL1.lt
    have hg := grown_set w3 r 4 (.int .i64 (L.used + q))
    have hob : (w3.setCell ⟨r, 4, none⟩ (.int .i64 (L.used + q))).heap[r]? = some (.cells (rfArr { L with used := L.used + q } s) 38 (0, 0)) := set_block9 hL1.obj 4 _ (by show 4 < 6; decide)
    have hL2 := hL1.upd hg hob rfl HI.out hL1.top
    have HT : Hid _ := RTurns13.of_set HH.out.bel.size hb3 hL1 hg hL2 fun k hk => (HH.out.own k (.inr hk)).2
    have HG : Hid _ := Gave13.mk (row_same hrow fun g hg2 => Below.heap_setCell w3 ⟨r, 4, none⟩ (.int .i64 (L.used + q)) g (by show g ≠ r; have := (World.ownsRow.lt hrow g hg2).1; omega)) hmem hmap
    clear hL1 hL2 hg hob hrow
    go_wp2
    go_ret
    exact ⟨s', ys, rfl, HG.out, HT.out⟩
  · rw [if_neg h2] at hq
    subst hq
    go_wp2
    go_quiet (fail)
    rename_i nq
    go_wp2_with fail
    refine (KS.out _ (by first | exact Below.refl _ _ | exact below_drewN (Below.refl _ _) _)).mono ?_
    rintro _ w3 ⟨s', ys, rfl, hrow', hmem, hmap, hb3'⟩
    have hz := (below_drewN (Below.refl w.heap.size w) nq).size
    have hb3 : Below w.heap.size w w3 := (below_drewN (Below.refl _ _) _).trans (hb3'.mono hz)
    have hrow := row_base hrow' hz
    clear hb3' hrow'
    have hL1 := HH.out.below hb3
    obtain ⟨-, -, -, -, e4, -⟩ := hL1.cells
    have f4 := frozen9 hL1.obj 4
    have hl3 := hL1.lt
    have hg := grown_set w3 r 4 (.int .i64 (L.used + (L.done - L.used)))
    have hob : (w3.setCell ⟨r, 4, none⟩ (.int .i64 (L.used + (L.done - L.used)))).heap[r]? = some (.cells (rfArr { L with used := L.used + (L.done - L.used) } s) 38 (0, 0)) := set_block9 hL1.obj 4 _ (by show 4 < 6; decide)
    have hL2 := hL1.upd hg hob rfl HI.out hL1.top
    have HT : Hid _ := RTurns13.of_set HH.out.bel.size hb3 hL1 hg hL2 fun k hk => (HH.out.own k (.inr hk)).2
    have HG : Hid _ := Gave13.mk (row_same hrow fun g hg2 => Below.heap_setCell w3 ⟨r, 4, none⟩ (.int .i64 (L.used + (L.done - L.used))) g (by show g ≠ r; have := (World.ownsRow.lt hrow g hg2).1; omega)) hmem hmap
    clear hL1 hL2 hg hob hrow
    go_wp2
    go_ret
    exact ⟨s', ys, rfl, HG.out, HT.out⟩
end
end Go.Proofs.Ytephoegcpjdglaa
