import Derived.Test.YthlghokgknkpaaaDoorImFTo
import Derived.ProofKit
import Derived.OpenShut
import Derived.Deep.SlicePairs
import Derived.SizedLaws
import Derived.ChangeSame
import Derived.Deep.RegionHeld3
import Derived.BigQuiet
/-
  From a row's own words to this proof's: a slice of pairs that came in, a range of keys, two slices of pairs.
-/
namespace Go.Proofs.YthlghokgknkpaaaDoor
open Go.ChangeShapes Go.WideShapes Go.ChangeAt Go.RowKit Go.Deep

theorem pairs_cells {H : Type} {enc : TypeId × Value → H} {P : Program} {w : World} {base : Nat} {spare : Nat → Bool} {held : Bool} {t e : TypeId} {f0 f1 : Field} {fuel : Nat} {a : Option Addr} {n c : Nat} {x : DataW H × List MemPlace}
    (ht : P.underlying t = some (.slice e)) (he : P.underlying e = some (.struct #[f0, f1])) (ce : P.cellsOf e = 2) (o0 : f0.offset = 0) (o1 : f1.offset = 1)
    (c0 : P.cellsOf f0.type = 1) (c1 : P.cellsOf f1.type = 1) (u0 : P.underlying f0.type = some .string) (u1 : P.underlying f1.type = some .string)
    (h : DataW.trod enc P w base spare held fuel t (Value.cells (.slice a n c)).toList = some x) :
    (a = none ∧ n = 0 ∧ c = 0) ∨
    ∃ (a' : Addr) (D : Nat → DataW H) (A : Nat → ByteArray × ByteArray) (sp : List (DataW H)), a = some a' ∧ n ≤ c ∧ c ≤ maxLen ∧ x.1 = .slice ((List.range n).map D) sp ∧
      ∀ i, i < n → D i = .agg [.lit (.string (A i).1.data.toList), .lit (.string (A i).2.data.toList)] ∧
        w.cell? (a'.add (i * 2)) = some (.string (A i).1) ∧ w.cell? (a'.add (i * 2 + 1)) = some (.string (A i).2) := by
  rcases open_slice ht h with ⟨hcs, _⟩ | ⟨a', len, cap, m, k, D, Pl, hcs, hb, hl, hm, hmm, rfl, hx⟩
  · simp [Value.cells] at hcs
    exact .inl ⟨hcs.1, hcs.2.1, hcs.2.2⟩
  · simp [Value.cells] at hcs
    obtain ⟨rfl, rfl, rfl⟩ := hcs
    have hlm : n ≤ m := by rw [hmm]; split <;> omega
    have each : ∀ i, i < n → ∃ A : ByteArray × ByteArray, D i = .agg [.lit (.string A.1.data.toList), .lit (.string A.2.data.toList)] ∧
        w.cell? (a'.add (i * 2)) = some (.string A.1) ∧ w.cell? (a'.add (i * 2 + 1)) = some (.string A.2) := by
      intro i hi
      obtain ⟨cs', h1, h2⟩ := hx i (by omega)
      rw [ce] at h1
      obtain ⟨_, hlen, hcell⟩ := World.cells?_some h1
      obtain ⟨xs, k', hk, hxy, _, hxl, hf⟩ := DataW.trod_struct he h2
      match xs, hxl, cs', hlen with
      | [y0, y1], _, [v0, v1], _ =>
        have g0 := hf 0 f0 rfl
        have g1 := hf 1 f1 rfl
        simp [o0, o1, c0, c1] at g0 g1
        obtain ⟨s0, hs0, rfl, _⟩ := DataW.trod_string u0 g0
        obtain ⟨s1, hs1, rfl, _⟩ := DataW.trod_string u1 g1
        cases hs0; cases hs1
        have e0 := hcell 0 (by omega)
        have e1 := hcell 1 (by omega)
        rw [add_add] at e0 e1
        simp only [Prod.mk.injEq] at hxy
        exact ⟨(s0, s1), by simpa using hxy.1, by simpa using e0, by simpa using e1⟩
    have each' : ∃ A : Nat → ByteArray × ByteArray, ∀ i, i < n → D i = .agg [.lit (.string (A i).1.data.toList), .lit (.string (A i).2.data.toList)] ∧
        w.cell? (a'.add (i * 2)) = some (.string (A i).1) ∧ w.cell? (a'.add (i * 2 + 1)) = some (.string (A i).2) := choose_lt each
    obtain ⟨A, hA⟩ := each'
    exact .inr ⟨a', D, A, _, rfl, hl, hm, rfl, hA⟩

theorem weights_allP {H : Type} {P : Program} {e : TypeId} : ∀ {ds : List (DataW H)} {d : DataW H}, d ∈ ds → ∀ q ∈ d.weights P e, q ∈ DataW.weightsAll P e ds
  | d0 :: ds, d, hd, q, hq => by
    simp only [DataW.weightsAll, List.mem_append]
    rcases List.mem_cons.1 hd with rfl | hd
    · exact .inl hq
    · exact .inr (weights_allP hd q hq)
theorem pairsV_cell {l : List (ByteArray × ByteArray)} {w : World} {b o : Nat} (h : ∀ i, i < l.length → w.cell? ⟨b, o + i * 2, none⟩ = some (.string (l.getD i default).1) ∧ w.cell? ⟨b, o + i * 2 + 1, none⟩ = some (.string (l.getD i default).2)) (j : Nat) (u : Value) (hj : (pairsV l)[j]? = some u) : w.cell? ⟨b, o + j, none⟩ = some u := by
  have hl : j < (pairsV l).length := (List.getElem?_eq_some_iff.1 hj).1
  rw [pairsV_length] at hl
  have hi : j / 2 < l.length := by omega
  rcases Nat.mod_two_eq_zero_or_one j with e | e
  · have ej : j = j / 2 * 2 := by omega
    have hk := pairsV_key hi
    rw [← ej, hj] at hk
    rw [Option.some.inj hk]
    have := (h _ hi).1
    rwa [← ej] at this
  · have ej : j = j / 2 * 2 + 1 := by omega
    have hk := pairsV_val hi
    rw [← ej, hj] at hk
    rw [Option.some.inj hk]
    have := (h _ hi).2
    rwa [Nat.add_assoc, ← ej] at this

theorem pairs_in {H : Type} {enc : TypeId × Value → H} {P : Program} {w : World} {base : Nat} {spare : Nat → Bool} {held : Bool} {t e : TypeId} {f0 f1 : Field} {fuel : Nat} {a : Option Addr} {n c : Nat} {x : DataW H × List MemPlace}
    (ht : P.underlying t = some (.slice e)) (he : P.underlying e = some (.struct #[f0, f1])) (ce : P.cellsOf e = 2) (o0 : f0.offset = 0) (o1 : f1.offset = 1)
    (c0 : P.cellsOf f0.type = 1) (c1 : P.cellsOf f1.type = 1) (u0 : P.underlying f0.type = some .string) (u1 : P.underlying f1.type = some .string)
    (h : DataW.trod enc P w base spare held fuel t (Value.cells (.slice a n c)).toList = some x) (hw : ∀ q ∈ x.1.weights P t, q ≤ reachBytes) :
    ∃ zs : List (ByteArray × ByteArray), HasP w (.slice a n c) zs ∧ InP zs ∧ (n : Int) ≤ 9223372036854775807 := by
  rcases pairs_cells ht he ce o0 o1 c0 c1 u0 u1 h with ⟨rfl, rfl, rfl⟩ | ⟨a', D, A, sp, rfl, hl, hm, hx, hA⟩
  · exact ⟨[], HasP.nil0 w, (fun _ h => by cases h), by omega⟩
  · have hlen : ((List.range n).map A).length = n := by simp
    have hget : ∀ i, i < n → ((List.range n).map A).getD i default = A i := fun i hi => by simp [List.getD_eq_getElem?_getD, hi]
    have hsz : ∀ i, i < n → (A i).1.size ≤ 140737488351232 ∧ (A i).2.size ≤ 140737488351232 := fun i hi => by
      have hin : ∀ q ∈ (D i).weights P e, q ≤ reachBytes := fun q hq => hw q (by
        rw [hx]
        simp only [DataW.weights, ht, List.mem_cons, List.mem_append]
        exact .inr (.inl (weights_allP (List.mem_map.2 ⟨i, List.mem_range.2 hi, rfl⟩) q hq)))
      rw [(hA i hi).1] at hin
      simp [DataW.weights, he, DataW.weightsEach, reachBytes] at hin
      exact hin
    refine ⟨(List.range n).map A, ⟨some a', c, by rw [hlen], by rw [hlen]; exact hl, (fun h => by cases h), fun h0 => ?_⟩, fun p hp => ?_, by unfold maxLen at hm; omega⟩
    · rw [hlen] at h0
      obtain ⟨b, o, s⟩ := a'
      obtain rfl : s = none := by simpa [Addr.add] using World.cell?_spot (hA 0 h0).2.1
      refine ⟨b, o, rfl, World.block_lt_of_cell? w _ (hA 0 h0).2.1, pairsV_cell fun i hi => ?_⟩
      rw [hlen] at hi
      obtain ⟨_, h1, h2⟩ := hA i hi
      rw [hget i hi]
      rw [Go.WideShapes.add_plain] at h1 h2
      exact ⟨h1, h2⟩
    · obtain ⟨i, hi, rfl⟩ := List.mem_map.1 hp
      exact hsz i (List.mem_range.1 hi)

theorem three_of {α : Type} : ∀ (a : Array α), a.size = 3 → ∃ x y z, a = #[x, y, z]
  | ⟨[x, y, z]⟩, _ => ⟨x, y, z, rfl⟩
theorem two_ofP {α : Type} : ∀ (a : Array α), a.size = 2 → ∃ x y, a = #[x, y]
  | ⟨[x, y]⟩, _ => ⟨x, y, rfl⟩

set_option maxRecDepth 100000 in
theorem open_ask {H : Type} {enc : TypeId × Value → H} {W : World} {spare : Nat → Bool} {held : Bool} {b0 base : Nat} {v : Value} {d : DataW H} {p : List MemPlace} (hv : Value.okWide Tryd.prog W .any b0 27 v) (h : DataW.Trod enc Tryd.prog W base spare held 27 v d p) :
    ∃ (f u : ByteArray) (n : Int), v = .agg #[.string f, .string u, .int .i64 n] ∧ (-9223372036854775808 ≤ n ∧ n ≤ 9223372036854775807) := by
  obtain ⟨cs, rfl, hsz⟩ := okWide_struct Tryd.underlying27 hv
  rw [show Tryd.prog.cellsOf 27 = 3 by kernel_rfl] at hsz
  obtain ⟨c0, c1, c2, rfl⟩ := three_of cs hsz
  obtain ⟨fuel, hf⟩ := h
  obtain ⟨xs, k', hk, hxy, _, hxl, hfs⟩ := DataW.trod_struct Tryd.underlying27 hf
  match xs, hxl with
  | [y0, y1, y2], _ =>
    have g0 := hfs 0 _ rfl
    have g1 := hfs 1 _ rfl
    have g2 := hfs 2 _ rfl
    simp [show Tryd.prog.cellsOf 9 = 1 by kernel_rfl, show Tryd.prog.cellsOf 3 = 1 by kernel_rfl, Value.cells] at g0 g1 g2
    obtain ⟨s0, hs0, -, -⟩ := DataW.trod_string Tryd.underlying9 g0
    obtain ⟨s1, hs1, -, -⟩ := DataW.trod_string Tryd.underlying9 g1
    obtain ⟨z, hz, -, wz⟩ := DataW.trod_int Tryd.underlying3 g2
    cases hs0; cases hs1; cases hz
    exact ⟨s0, s1, z, rfl, bounds_i64 wz⟩

set_option maxRecDepth 100000 in
theorem open_two {H : Type} {enc : TypeId × Value → H} {W : World} {spare : Nat → Bool} {held : Bool} {b0 base : Nat} {v : Value} {d : DataW H} {p : List MemPlace} (hv : Value.okWide Tryd.prog W .any b0 50 v) (h : DataW.Trod enc Tryd.prog W base spare held 50 v d p) (hw : ∀ q ∈ d.weights Tryd.prog 50, q ≤ reachBytes) :
    ∃ (a : Option Addr) (n c : Nat) (xs : List (ByteArray × ByteArray)) (a' : Option Addr) (n' c' : Nat) (ys : List (ByteArray × ByteArray)), v = .agg #[.slice a n c, .slice a' n' c'] ∧ HasP W (.slice a n c) xs ∧ InP xs ∧ (n : Int) ≤ 9223372036854775807 ∧ HasP W (.slice a' n' c') ys ∧ InP ys ∧ (n' : Int) ≤ 9223372036854775807 := by
  obtain ⟨cs, rfl, hsz⟩ := okWide_struct Tryd.underlying50 hv
  rw [show Tryd.prog.cellsOf 50 = 2 by kernel_rfl] at hsz
  obtain ⟨c0, c1, rfl⟩ := two_ofP cs hsz
  obtain ⟨fuel, hf⟩ := h
  obtain ⟨xs, k', hk, hxy, _, hxl, hfs⟩ := DataW.trod_struct Tryd.underlying50 hf
  match xs, hxl with
  | [y0, y1], _ =>
    have g0 := hfs 0 _ rfl
    have g1 := hfs 1 _ rfl
    simp [show Tryd.prog.cellsOf 25 = 1 by kernel_rfl, Value.cells] at g0 g1
    simp only [Prod.mk.injEq, List.map_cons, List.map_nil] at hxy
    obtain ⟨rfl, -⟩ := hxy
    have hw' := hw
    simp only [DataW.weights, Tryd.underlying50, DataW.weightsEach, List.map_cons, List.map_nil, List.append_nil, List.mem_append] at hw'
    have hs : ∀ {n : Nat} {c : Value} {y : DataW H × List MemPlace}, DataW.trod enc Tryd.prog W base spare held n 25 [c] = some y → ∃ a m k, c = .slice a m k := fun hc => by
      rcases open_slice Tryd.underlying25 hc with ⟨hcs, _⟩ | ⟨a', len, cap, m, k, D, Pl, hcs, _⟩
      · simp at hcs; exact ⟨_, _, _, hcs⟩
      · simp at hcs; exact ⟨_, _, _, hcs⟩
    obtain ⟨a, n, c, rfl⟩ := hs g0
    obtain ⟨a', n', c', rfl⟩ := hs g1
    obtain ⟨xs, x1, x2, x3⟩ := pairs_in Tryd.underlying25 Tryd.underlying33 (by kernel_rfl) rfl rfl (by kernel_rfl) (by kernel_rfl) Tryd.underlying9 Tryd.underlying9 (x := y0) g0 fun q hq => hw' q (.inl hq)
    obtain ⟨ys, z1, z2, z3⟩ := pairs_in Tryd.underlying25 Tryd.underlying33 (by kernel_rfl) rfl rfl (by kernel_rfl) (by kernel_rfl) Tryd.underlying9 Tryd.underlying9 (x := y1) g1 fun q hq => hw' q (.inr hq)
    exact ⟨a, n, c, xs, a', n', c', ys, rfl, x1, x2, x3, z1, z2, z3⟩
end Go.Proofs.YthlghokgknkpaaaDoor

/-
  The walk of corbellaw07.lives: the document's example.
-/
namespace Go.Proofs.YthlghokgknkpaaaDoor
open Go.RowKit Go.Shelf Go.Lib

set_option maxRecDepth 100000 in
set_option maxHeartbeats 4000000 in
theorem lives7_any (w : World) (hT : Tab w) : Calls Tryd.prog 8 #[] w fun e w' => e = .returned (.bool true) ∧ Below w.heap.size w w' := by
  have hw0 := hT.1
  have hnew := new_any_s 0 0 0 w (by omega) (by omega) (by decide)
  rw [show (needI 0).toNat = 1 by decide] at hnew
  have heq : ∀ (a b : ByteArray × ByteArray) (W : World), Sem.run Tryd.prog (binOp .eql 33 (.agg #[.string a.1, .string a.2]) (.agg #[.string b.1, .string b.2])) W = .ok (.bool (decide (a = b))) W := eqlP.1
  have hgd : ∀ (op : BinOp) (o1 o2 : Operand) (a b : ByteArray × ByteArray) (W : World), Sem.run Tryd.prog (eqGuard op 33 o1 o2 (.agg #[.string a.1, .string a.2]) (.agg #[.string b.1, .string b.2])) W = .ok () W := eqlP.2
  have heq1 := fun W => heq (⟨#[97]⟩, ⟨#[49]⟩) (⟨#[97]⟩, ⟨#[49]⟩) W
  have hgd1 := fun op o1 o2 W => hgd op o1 o2 (⟨#[97]⟩, ⟨#[49]⟩) (⟨#[97]⟩, ⟨#[49]⟩) W
  rw [decide_eq_true rfl] at heq1
  dsimp only at heq1 hgd1
  clear heq hgd
  go_enter Tryd.func8, Tryd.ntmps8
  go_wp2_with fail
  refine hnew.mono ?_
  rintro e w1 ⟨b, bw, bs, rfl, hl1, g1, g2, g3, hb1⟩
  have h1 := one7_new (Below.refl _ w) hl1 (by decide) g1 g2 g3 hb1
  have hp1 := h1.put hT (by omega) (⟨#[98]⟩, ⟨#[50]⟩) (by exact ⟨by show 1 ≤ _; omega, by show 1 ≤ _; omega⟩)
  clear hnew hl1 g1 g2 g3 hb1
  go_wp2_with fail
  refine hp1.mono ?_
  rintro e w2 ⟨⟨x1, y1, rfl⟩, h2, -⟩
  have hp2 := h2.put hT (by omega) (⟨#[97]⟩, ⟨#[49]⟩) (by exact ⟨by show 1 ≤ _; omega, by show 1 ≤ _; omega⟩)
  clear hp1
  go_wp2_with fail
  refine hp2.mono ?_
  rintro e w3 ⟨⟨x2, y2, rfl⟩, h3, -⟩
  clear hp2 h1 h2
  have hr := h3.range hT (by omega) ⟨#[97]⟩ ⟨#[]⟩ 1 (by omega)
  rw [live_put, live_cut] at hr
  go_wp2_with fail
  refine hr.mono ?_
  rintro e w4 ⟨v4, rfl, ho4, hb4⟩
  have h4 := h3.below hb4
  have hx := h4.exp hT (by omega)
  rw [live_put, live_exp] at hx
  obtain ⟨p4, c4, rfl, -, -, -⟩ := id ho4.has
  clear hr h3
  go_wp2_with fail
  refine hx.mono ?_
  rintro e w5 ⟨v5, rfl, ho5, hb5⟩
  have h5 := h4.below hb5
  have ho45 := ho4.below hb5 (Nat.le_refl _)
  clear hx h4 ho4
  have hlit := Has.lit w5 [2, 1, 97, 1, 49, 1, 98, 1, 50] 5
  have hba : Below w5.heap.size w5 (w5.alloc (.cells ([2, 1, 97, 1, 49, 1, 98, 1, 50].map (Value.int .u8)).toArray 5)) := (Below.refl _ _).alloc (Nat.le_refl _) _
  have hsm := same_any v5 _ _ _ _ (ho5.has.below hba (Nat.le_refl _)) hlit live_isB live_isB
  have h6 := h5.below hba
  have ho46 := ho45.below hba (Nat.le_refl _)
  simp only [List.length_cons, List.length_nil, Nat.reduceAdd, List.map_cons, List.map_nil] at hsm h6 hba ho46
  rw [show (([2, 1, 97, 1, 49, 1, 98, 1, 50] : List Int) == [2, 1, 97, 1, 49, 1, 98, 1, 50]) = true by decide] at hsm
  clear hlit ho5 ho45
  go_wp2_with fail
  generalize w5.alloc _ = w6 at *
  refine same_mono hsm ?_
  obtain ⟨bb, oo, rfl, hbb, hcc, -, c1, c2⟩ := ho46.has.at (j := 0) (by simp)
  simp only [Nat.zero_mul, Nat.add_zero, List.getD_cons_zero] at c1 c2
  clear hsm ho46
  obtain ⟨⟨bw6, bs6, hl6, -⟩, hf6, -⟩ := id h6
  have hcp := copy_any_s b bw6 bs6 _ w6 hl6 hf6.inv.fit hf6.inv.typed
  go_wp2_with fail
  refine hcp.mono ?_
  rintro e w7 ⟨d, dw, ds, rfl, hl7, f1, f2, f3, hb7⟩
  have h7 := h6.more hl7 hf6 f1 f2 f3 hb7
  have hsame := h7.one.same h7.swap.one hT (by omega) (by omega)
  rw [decide_eq_true rfl] at hsame
  clear hcp hl6 hf6 hl7 f1 f2 f3 c1 c2
  go_wp2_with fail
  refine hsame.mono ?_
  rintro e w8 ⟨rfl, hb8⟩
  go_wp2
  go_ret
  exact ⟨rfl, h7.bel.trans (hb8.mono h7.bel.size)⟩
end Go.Proofs.YthlghokgknkpaaaDoor

/-
  The walk of corbellaw07.ImageRanges.
-/
namespace Go.Proofs.YthlghokgknkpaaaDoor
open Go.RowKit Go.Shelf Go.Lib

theorem ltT_nil (a : ByteArray) : ltT a ⟨#[]⟩ = false := by
  unfold ltT
  rw [Lib.toList_data (⟨#[]⟩ : ByteArray)]
  cases a.toList <;> rfl
theorem plc_nil (l : List (ByteArray × ByteArray)) : plc l ⟨#[]⟩ = 0 := by
  unfold plc
  rw [List.countP_eq_zero]
  intro p _
  simp [ltT_nil]
/-- Two ranges that meet tell what one range tells. -/
theorem ranges_meet {l : List (ByteArray × ByteArray)} (hr : Rise l) (hl : l.length ≤ 1000) {f : ByteArray} (hf : f ≠ ⟨#[]⟩) : cutL l ⟨#[]⟩ f 1000 ++ cutL l f ⟨#[]⟩ 1000 = l := by
  have hp := plc_le l f
  rw [cut_is hr, cut_is hr, plc_nil, List.drop_zero]
  unfold endP
  rw [if_neg hf, if_pos rfl, List.take_length, List.take_of_length_le (i := (1000 : Int).toNat) (by rw [List.length_take]; show _ ≤ 1000; omega), List.take_of_length_le (i := (1000 : Int).toNat) (by rw [List.length_drop]; show _ ≤ 1000; omega), List.take_append_drop]
theorem cut_zero (l : List (ByteArray × ByteArray)) (f u : ByteArray) : cutL l f u 0 = [] := by simp [cutL]

/-- 'append(s, x...)' of pairs. -/
theorem ap_pairs {ops : Array Oper} {rest : List Oper} {o : Oper} {a : Act} {Q : Exit → Act → World → Prop} (w : World) (hgd : o.guard = none) (s x : Operand)
    (ho : o.op = .call { callee := .builtin .append, args := #[s, x], argTypes := #[25, 25] })
    (B : Nat) (v : Value) (xs ys : List (ByteArray × ByteArray)) (hs : a.eval s = v) (hx : HasP w (a.eval x) ys) (hown : OwnsP w B v xs) (hlen : xs.length ≤ 1073741824) (hlen2 : ys.length ≤ 1073741824) (hB : B ≤ w.heap.size)
    (h : ∀ v' w', OwnsP w' B v' (xs ++ ys) → w.grownBy w' v.ownBlock → wpList Tryd.prog ops Q rest (a.put o.dst v') w') :
    wpList Tryd.prog ops Q (o :: rest) a w := by
  obtain ⟨i1, hi1, hz1, hs1, hb1⟩ := info_parts infoP
  obtain ⟨p, c, hv, hc, hnone, hcell⟩ := hx
  cases p with
  | none =>
    obtain rfl := hnone rfl
    have hy : ys = [] := List.eq_nil_of_length_eq_zero (by omega)
    subst hy
    refine wpList_append_own_none hgd s x 25 ho B 33 i1 2 Tryd.underlying25 hi1 v xs.length (pairsV xs) hs hown (by simpa using hv) ?_
    refine h v w ?_ ⟨rfl, rfl, rfl, Nat.le_refl _, fun _ _ _ => rfl⟩
    rw [List.append_nil]
    exact hown
  | some ad =>
    refine wpList_append_own _ hgd s x 25 ho B 33 i1 (.agg #[.string ⟨#[]⟩, .string ⟨#[]⟩]) 2 32 Tryd.underlying25 hi1 hz1 hs1 hb1 rfl (by decide) v xs.length (pairsV xs) hs hown ad ys.length c (pairsV ys) hv (pairsV_length ys) ?_ (pairsV_one ys) ?_ ?_ hB ?_
    · intro j u hj
      have hjl : j < (pairsV ys).length := (List.getElem?_eq_some_iff.1 hj).1
      rw [pairsV_length] at hjl
      obtain ⟨b, o', hp, _, hcl⟩ := hcell (by omega)
      obtain rfl := Option.some.inj hp
      rw [Addr.add_lit]
      exact hcl j u hj
    · unfold maxLen; omega
    · omega
    · intro v' w' hown' hgrow _
      refine h v' w' ?_ hgrow
      unfold OwnsP
      rw [List.length_append, pairsV_append]
      exact hown'
theorem boxes8 (w : World) (k0 k1 : Int) (x y z : Value) (t : TypeId) : ∃ W, ((w.alloc (.cells #[.int .u64 k0, .int .u64 k1] 24)).alloc (.cells #[x, y, z] t)) = W ∧ W.cell? ⟨w.heap.size, 0, none⟩ = some (.int .u64 k0) ∧ W.cell? ⟨w.heap.size, 1, none⟩ = some (.int .u64 k1) ∧
    W.heap[w.heap.size + 1]? = some (.cells #[x, y, z] t (0, 0)) ∧ W.heap.size = w.heap.size + 2 ∧ Below w.heap.size w W := by
  refine ⟨_, rfl, ?_⟩
  have h0 := heap_alloc_new w (.cells #[.int .u64 k0, .int .u64 k1] 24)
  have h1 := heap_alloc_new (w.alloc (.cells #[.int .u64 k0, .int .u64 k1] 24)) (.cells #[x, y, z] t)
  rw [World.size_alloc] at h1
  have g0 := (Below.heap_alloc (w.alloc (.cells #[.int .u64 k0, .int .u64 k1] 24)) (.cells #[x, y, z] t) w.heap.size (by simp)).trans h0
  refine ⟨?_, ?_, h1, by simp, ((Below.refl _ _).alloc (Nat.le_refl _) _).alloc (by simp) _⟩
  · unfold World.cell?; dsimp only; rw [g0]; rfl
  · unfold World.cell?; dsimp only; rw [g0]; rfl
/-- One cell of a box, and all that is old, as it was. -/
theorem keepB {X w1 w2 : World} {s : Nat} {v0 : Value} (hs : s < X.heap.size) (hb : Below w1.heap.size w1 w2) (h : w1.cell? ⟨s, 0, none⟩ = some v0 ∧ Below X.heap.size X w1) : w2.cell? ⟨s, 0, none⟩ = some v0 ∧ Below X.heap.size X w2 := by
  obtain ⟨h1, h4⟩ := h
  have := h4.size
  exact ⟨(hb.cell (p := ⟨s, 0, none⟩) (by show s < _; omega)).trans h1, h4.trans (hb.mono h4.size)⟩

set_option maxRecDepth 100000 in
set_option maxHeartbeats 1500000 in
theorem imageRanges_any (k0 k1 : Int) (p : Option Addr) (n c : Nat) (xs : List (ByteArray × ByteArray)) (f u : ByteArray) (lim : Int) (w : World) (hT : Tab w)
    (_hk0 : 0 ≤ k0 ∧ k0 ≤ 18446744073709551615) (_hk1 : 0 ≤ k1 ∧ k1 ≤ 18446744073709551615) (hX : HasP w (.slice p n c) xs) (hXi : InP xs) (hn : (n : Int) ≤ 9223372036854775807) (_hlim : -9223372036854775808 ≤ lim ∧ lim ≤ 9223372036854775807) :
    Calls Tryd.prog 3 #[.agg #[.int .u64 k0, .int .u64 k1], .slice p n c, .agg #[.string f, .string u, .int .i64 lim]] w fun e w' => e = .returned (.bool true) ∧ Below w.heap.size w w' := by
  have hw0 := hT.1
  obtain ⟨W0, hW0, a0, a1, q, hz0, hB0⟩ := boxes8 w k0 k1 (.string f) (.string u) (.int .i64 lim) 27
  have hnew := new_any_s k0 k1 0 W0 (by omega) (by omega) (by decide)
  rw [show (needI 0).toNat = 1 by decide] at hnew
  go_enter Tryd.func3, Tryd.ntmps3
  go_wp2_with fail
  clear hW0
  refine hnew.mono ?_
  rintro e w1 ⟨b, bw, bs, rfl, hl1, g1, g2, g3, hb1⟩
  have h1 := one7_new hB0 hl1 (by decide) g1 g2 g3 hb1
  replace q := (hb1.block _ (by omega)).trans q
  generalize hs : w.heap.size + 1 = s at *
  have Hs : Hid (w.heap.size + 1 = s) := hs
  clear hs hnew hl1 g1 g2 g3 hb1 a0 a1 hz0 hB0
  generalize SM.empty k0 k1 (.string ⟨#[]⟩) 1 = M0 at *
  have hql : ∀ V : World, V.heap[s]? = some (.cells #[.string f, .string u, .int .i64 lim] 27 (0, 0)) → s < V.heap.size := fun V hV => (Array.getElem?_eq_some_iff.1 hV).1
  have hlives := fun (W : World) (hW : Below w.heap.size w W) => lives7_any W (hT.below hW hw0)
  have hfew := fewL_any p n c xs w1 (hX.below h1.bel (Nat.le_refl _)) hXi hn
  go_wp2_with fail
  refine hfew.mono ?_
  rintro e w2 ⟨r1, rfl, hr1, hb2⟩
  replace h1 := h1.below hb2
  replace q := (hb2.block s (hql _ q)).trans q
  clear hfew hb2
  cases r1 with
  | false =>
    go_wp2_with fail
    refine (hlives w2 h1.bel).mono ?_
    rintro e w3 ⟨rfl, hb3⟩
    go_wp2
    go_ret
    exact ⟨rfl, h1.bel.trans (hb3.mono h1.bel.size)⟩
  | true =>
    have Fx : Hid (FewL xs) := hr1 rfl
    have Lx : Hid (xs.length = n) := hX.len.1.symm
    have hnx : n ≤ 300 := by rw [← Lx.out]; exact fewL_len Fx.out
    clear hr1
    go_wp2
    go_loopw [33] (fun i wr => ∃ j : Nat, j ≤ n ∧ i = .int .i64 (j : Nat) ∧ One7 w wr b j (putL M0 (xs.take j)) ∧ wr.heap[s]? = some (.cells #[.string f, .string u, .int .i64 lim] 27 (0, 0))) (fun i _ => n - (intOf i).toNat)
    case atStart => exact ⟨0, Nat.zero_le _, rfl, by rw [List.take_zero]; exact h1, q⟩
    case round =>
      clear h1 q
      obtain ⟨j, hj, rfl, hD, q⟩ := hrel
      by_cases hlt : j < n
      · obtain ⟨bb, oo, rfl, hbb, hcc, -, c1, c2⟩ := (hX.below hD.bel (Nat.le_refl _)).at (j := j) hlt
        have hjx : j < xs.length := by rw [Lx.out]; exact hlt
        have Ht : Hid (xs.take j ++ [xs.getD j default] = xs.take (j + 1)) := ptake_snoc hjx
        have hsz := fewL_size Fx.out (pgetD_mem hjx)
        clear hjx
        generalize xs.getD j default = x at *
        have hba : Below wr.heap.size wr (wr.alloc (.cells #[.string x.1, .string x.2] 33)) := (Below.refl _ _).alloc (Nat.le_refl _) _
        have hput := (hD.below hba).put hT (by omega) x ⟨by omega, by omega⟩
        have q' := (hba.block s (hql _ q)).trans q
        go_wp2_with fail
        generalize wr.alloc (.cells #[.string x.1, .string x.2] 33) = wa at *
        refine hput.mono ?_
        rintro e w3 ⟨⟨y1, y2, rfl⟩, hD3, hk3⟩
        have q3 := hk3 _ s _ _ (by decide) q'
        clear hput hD q q' hba c1 c2
        go_wp2
        go_roundw
        case rel => exact ⟨j + 1, by omega, by go_num, by rw [← Ht.out, putL_snoc]; exact hD3, q3⟩
        case measure => simp only [intOf]; omega
      · obtain rfl : j = n := by omega
        rw [show xs.take j = xs by rw [← Lx.out, List.take_length]] at hD
        generalize putL M0 xs = M at *
        clear hX hXi Fx Lx
        have hF := hD.fine
        have hRise : Hid (Rise M.img) := img_rise hF.inv
        have hLen : Hid (M.img.length = M.n) := img_len hF.inv
        have hMn := hF.n
        have hPs := hD.pairs hT
        go_wp2_with fail
        refine hPs.mono ?_
        rintro e w4 ⟨v4, rfl, ho4, hb4⟩
        have hD4 := hD.below hb4
        have q4 := (hb4.block s (hql _ q)).trans q
        obtain ⟨p4, c4, rfl, hc4, -, -⟩ := id ho4.has
        rw [hLen.out] at hc4
        have hR4 : Hid (HasP w4 (.slice p4 M.n c4) M.img) := by rw [Hid, ← hLen.out]; exact ho4.has
        rw [hLen.out]
        clear hPs hD q hb4 ho4
        go_wp2
        go_loopw [48] (fun i wr => ∃ j' : Nat, j' ≤ M.n ∧ i = .int .i64 (j' : Nat) ∧ Below w4.heap.size w4 wr) (fun i _ => M.n - (intOf i).toNat)
        case atStart => exact ⟨0, Nat.zero_le _, rfl, Below.refl _ _⟩
        case round =>
          obtain ⟨i, hi, rfl, hbr⟩ := hrel
          by_cases hlt' : i < M.n
          · have hD5 := hD4.below hbr
            obtain ⟨bb, oo, rfl, hbb, hcc, -, c1, c2⟩ := (hR4.out.below hbr (Nat.le_refl _)).at (j := i) hlt'
            have hix : i < M.img.length := by rw [hLen.out]; exact hlt'
            have hm := pgetD_mem hix
            have hprev : i = 0 ∨ ∃ y : ByteArray × ByteArray, i ≠ 0 ∧ wr.cell? ⟨bb, oo + (i - 1) * 2, none⟩ = some (.string y.1) ∧ Op.bytesLess y.1.toList (M.img.getD i default).1.toList = true := by
              by_cases h0 : i = 0
              · exact .inl h0
              · obtain ⟨b2, o2, e2, -, -, -, d1, -⟩ := (hR4.out.below hbr (Nat.le_refl _)).at (j := i - 1) (by omega)
                cases e2
                refine .inr ⟨_, h0, d1, ?_⟩
                rw [pgetD hix, pgetD (by omega : i - 1 < M.img.length)]
                exact List.pairwise_iff_getElem.1 hRise.out (i - 1) i (by omega) hix (by omega)
            clear hix
            generalize M.img.getD i default = x at *
            obtain ⟨xk, xv⟩ := x
            have hh := (img_mem hF.inv).1 hm
            obtain ⟨hk1, hk2⟩ := (has_valK hF.inv).1 hh
            have hsz := hF.sz _ _ hh
            dsimp only at c1 c2 hprev
            have hba : Below wr.heap.size wr (wr.alloc (.cells #[.string xk, .string xv] 33)) := (Below.refl _ _).alloc (Nat.le_refl _) _
            have hg := (hD5.below hba).get hT xk (by omega)
            rw [keys_has hF.inv hk1, ← hk2] at hg
            have hbox := heap_alloc_new wr (.cells #[.string xk, .string xv] 33)
            have hbz := hbr.size
            have hza : (wr.alloc (.cells #[.string xk, .string xv] 33)).heap.size = wr.heap.size + 1 := by simp
            clear hm hh hk1 hk2 hsz hD5
            go_wp2_with fail
            generalize wr.alloc (.cells #[.string xk, .string xv] 33) = wa at *
            refine hg.mono ?_
            rintro e w6 ⟨rfl, hb6⟩
            have hb6z := hb6.size
            have k6 := (hb6.block wr.heap.size (by omega)).trans hbox
            have d0 : w6.cell? ⟨wr.heap.size, 0, none⟩ = some (.string xk) := by unfold World.cell?; dsimp only; rw [k6]; rfl
            have d1 : w6.cell? ⟨wr.heap.size, 1, none⟩ = some (.string xv) := by unfold World.cell?; dsimp only; rw [k6]; rfl
            have hbA : Below w4.heap.size w4 w6 := (hbr.trans (hba.mono hbz)).trans (hb6.mono (by omega))
            have hmix : Tryd.prog.follows Departure.mixedOrders = true := by kernel_rfl
            clear hg hbox k6 c1 c2
            generalize wr.heap.size = sb at *
            rcases hprev with rfl | ⟨⟨yk, yv⟩, hi0, hy, hlt2⟩
            · go_wp2_with fail
              go_big_quiet (fail)
              go_wp2
              go_roundw
              case rel => exact ⟨1, by omega, by go_num, below_drewN hbA _⟩
              case measure => simp only [intOf]; omega
            · have hy6 : w6.cell? ⟨bb, oo + (i - 1) * 2, none⟩ = some (.string yk) := ((hba.trans (hb6.mono (by have := hba.size; omega))).cell (p := ⟨bb, oo + (i - 1) * 2, none⟩) hbb).trans hy
              dsimp only at hlt2
              have hi1 : (0 : Int) < (i : Int) := by omega
              have hi5 : 0 < i := by omega
              have hi2 : (((i : Int) - 1)).toNat = i - 1 := by omega
              have hi3 : (i : Int) - 1 < (M.n : Int) := by omega
              have hi4 : (0 : Int) ≤ (i : Int) - 1 := by omega
              clear hy hba hb6 hi0
              go_wp2_with fail
              go_big_quiet (fail)
              go_wp2
              go_roundw
              case rel => exact ⟨i + 1, by omega, by go_num, below_drewN hbA _⟩
              case measure => simp only [intOf]; omega
          · obtain rfl : i = M.n := by omega
            have hD5 := hD4.below hbr
            have q5 := (hbr.block s (hql _ q4)).trans q4
            have e0 : wr.cell? ⟨s, 0, none⟩ = some (.string f) := by unfold World.cell?; dsimp only; rw [q5]; rfl
            have hln := hD5.len
            go_wp2_with fail
            refine same_mono hln ?_
            by_cases hf0 : f = ⟨#[]⟩
            · subst hf0
              go_wp2_with fail
              refine same_mono hln ?_
              go_wp2_with fail
              refine (hlives wr hD5.bel).mono ?_
              rintro e w6 ⟨rfl, hb6⟩
              go_wp2
              go_ret
              exact ⟨rfl, hD5.bel.trans (hb6.mono hD5.bel.size)⟩
            · have hfe : f.toList.isEmpty = false := not_empty hf0
              have hmeet := ranges_meet hRise.out (by rw [hLen.out]; omega) hf0
              have s0 : wr.drew.cell? ⟨s, 0, none⟩ = some (.string f) ∧ Below wr.heap.size wr wr.drew := ⟨e0, ⟨rfl, rfl, rfl, Nat.le_refl _, fun _ _ => rfl⟩⟩
              have hsl : s < wr.heap.size := hql _ q5
              have hRg : ∀ W, Below wr.heap.size wr W → ∀ x y : ByteArray, Calls Tryd.prog 13 #[.pointer (some ⟨b, 0, none⟩), .string x, .string y, .int .i64 1000] W fun e w' => ∃ v, e = .returned v ∧ OwnsP w' W.heap.size v (cutL M.img x y 1000) ∧ Below W.heap.size W w' := fun W hW x y => (hD5.below hW).range hT (by omega) x y 1000 (by omega)
              have HD5 : Hid (One7 w wr b j M) := hD5
              have HR4 : Hid (HasP wr (.slice p4 M.n c4) M.img) := hR4.out.below hbr (Nat.le_refl _)
              have Hm : Hid (cutL M.img ⟨#[]⟩ f 1000 ++ cutL M.img f ⟨#[]⟩ 1000 = M.img) := hmeet
              clear hmeet hD5 hD4 hR4 hbr q4 q5 hln
              go_wp2_with fail
              clear e0
              go_region_held3 (fun w' => w'.cell? ⟨s, 0, none⟩ = some (.string f) ∧ Below wr.heap.size wr w')
                (first | exact s0 | assumption | exact keepB hsl (by assumption) (by assumption))
                (first
                  | (go_at_call 13; refine Calls.mono (hRg _ (And.right (by assumption)) _ _) ?_; rintro e wc ⟨vc, rfl, hoc, hbc⟩))
              rename_i wa va hoa hba _
              have hbw : Below wr.heap.size wr wc := And.right (by assumption)
              have hzw : wr.drew.heap.size = wr.heap.size := rfl
              have hxa : HasP wc va (cutL M.img ⟨#[]⟩ f 1000) := (hoa.below hbc (Nat.le_refl _)).has
              have hxc := hoc.has
              have hl9 : (cutL M.img ⟨#[]⟩ f 1000).length ≤ 300 ∧ (cutL M.img f ⟨#[]⟩ 1000).length ≤ 300 := by
                have h9 := congrArg List.length Hm.out
                rw [List.length_append, hLen.out] at h9
                omega
              have hE0 : OwnsP (wc.alloc (.cells #[] 33)) wc.heap.size (.slice (some ⟨wc.heap.size, 0, none⟩) 0 0) [] := World.ownsRow_made wc #[] 0 (Nat.le_refl _) (Nat.zero_le _) rfl
              have hbe : Below wc.heap.size wc (wc.alloc (.cells #[] 33)) := (Below.refl _ _).alloc (Nat.le_refl _) _
              clear hoa hba hoc hbc hRg s0
              go_wp2_with (first
                | (at_builtin; refine ap_pairs _ rfl _ _ rfl wc.heap.size (.slice (some ⟨wc.heap.size, 0, none⟩) 0 0) [] (cutL M.img ⟨#[]⟩ f 1000) rfl (by exact hxa.below hbe (Nat.le_refl _)) (by exact hE0) (by simp) (by omega) (by simp) ?_; intro v8 w8 ho8 hg8; have hb8 : Below wc.heap.size wc w8 := hbe.grown hg8 (by simp) (by intro k hk; simp [Value.ownBlock] at hk; omega))
                | (at_builtin; refine ap_pairs _ rfl _ _ rfl wc.heap.size v8 _ (cutL M.img f ⟨#[]⟩ 1000) rfl (by exact hxc.below hb8 (Nat.le_refl _)) (by exact ho8) (by rw [List.nil_append]; omega) (by omega) (by exact hb8.size) ?_; intro v9 w9 ho9 hg9; have hb9 : Below wc.heap.size wc w9 := hb8.grown hg9 hb8.size (fun k hk => (World.ownsRow.lt ho8 k hk).1)))
              rw [List.nil_append, Hm.out] at ho9
              have hbw9 : Below wr.heap.size wr w9 := hbw.trans (hb9.mono hbw.size)
              have hD9 := HD5.out.below hbw9
              have hsm := rsame_any v9 (.slice p4 M.n c4) _ _ w9 ho9.has (HR4.out.below hbw9 (Nat.le_refl _)) (by rw [hLen.out]; omega) (by rw [hLen.out]; omega)
              rw [decide_eq_true rfl] at hsm
              clear hxa hxc hl9 hE0 hbe ho8 hg8 hb8 hg9 ho9
              refine hsm.mono ?_
              rintro e w10 ⟨rfl, hb10⟩
              have hD10 := hD9.below hb10
              have hR0 := hD10.range hT (by omega) ⟨#[]⟩ ⟨#[]⟩ 0 (by omega)
              rw [cut_zero] at hR0
              clear hsm
              go_wp2_with fail
              refine hR0.mono ?_
              rintro e w11 ⟨v11, rfl, ho11, hb11⟩
              have hD11 := hD10.below hb11
              obtain ⟨p11, c11, rfl, -, -, -⟩ := id ho11.has
              rw [List.length_nil]
              clear hR0 ho11
              go_wp2_with fail
              refine (hlives w11 hD11.bel).mono ?_
              rintro e w12 ⟨rfl, hb12⟩
              go_wp2
              go_ret
              exact ⟨rfl, hD11.bel.trans (hb12.mono hD11.bel.size)⟩
end Go.Proofs.YthlghokgknkpaaaDoor
