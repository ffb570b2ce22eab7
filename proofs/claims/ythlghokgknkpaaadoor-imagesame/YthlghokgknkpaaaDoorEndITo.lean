import Derived.Test.YthlghokgknkpaaaDoorImFTo
import Derived.ProofKit
import Derived.OpenShut
import Derived.Deep.SlicePairs
import Derived.SizedLaws
import Derived.ChangeSame
import Derived.Test.YthlghokgknkpaaaDoorSwBTo
/-
  From a row's own words to this proof's: a slice of pairs that came in, a range of keys, two slices of pairs.
-/
namespace Go.Proofs.YthlghokgknkpaaaDoor
open Go.ChangeShapes Go.WideShapes Go.ChangeAt Go.RowKit Go.Deep

theorem pairs_cells {H : Type} {enc : TypeId × Value → H} {P : Program} {w : World} {base : Nat} {spare : Nat → Bool} {held : Bool} {t e : TypeId} {f0 f1 : Field} {fuel : Nat} {a : Option Addr} {n c : Nat} {x : DataW H × List MemPlace}
    (ht : P.underlying t = some (.slice e)) (he : P.underlying e = some (.struct #[f0, f1])) (ce : P.cellsOf e = 2) (o0 : f0.offset = 0) (o1 : f1.offset = 1)
    (c0 : P.cellsOf f0.type = 1) (c1 : P.cellsOf f1.type = 1) (u0 : P.underlying f0.type = some .string) (u1 : P.underlying f1.type = some .string)
    (h : DataW.trod enc P w base spare held fuel t (Value.cells (.slice a n c)).toList = some x) :
    (a = none ∧ n = 0 ∧ c = 0) ∨
    ∃ (a' : Addr) (D : Nat → DataW H) (A : Nat → ByteArray × ByteArray) (sp : List (DataW H)), a = some a' ∧ n ≤ c ∧ c ≤ maxLen ∧ x.1 = .slice ((List.range n).map D) sp ∧
      ∀ i, i < n → D i = .agg [.lit (.string (A i).1.data.toList), .lit (.string (A i).2.data.toList)] ∧
        w.cell? (a'.add (i * 2)) = some (.string (A i).1) ∧ w.cell? (a'.add (i * 2 + 1)) = some (.string (A i).2) := by
  rcases open_slice ht h with ⟨hcs, _⟩ | ⟨a', len, cap, m, k, D, Pl, hcs, hb, hl, hm, hmm, rfl, hx⟩
  · simp [Value.cells] at hcs
    exact .inl ⟨hcs.1, hcs.2.1, hcs.2.2⟩
  · simp [Value.cells] at hcs
    obtain ⟨rfl, rfl, rfl⟩ := hcs
    have hlm : n ≤ m := by rw [hmm]; split <;> omega
    have each : ∀ i, i < n → ∃ A : ByteArray × ByteArray, D i = .agg [.lit (.string A.1.data.toList), .lit (.string A.2.data.toList)] ∧
        w.cell? (a'.add (i * 2)) = some (.string A.1) ∧ w.cell? (a'.add (i * 2 + 1)) = some (.string A.2) := by
      intro i hi
      obtain ⟨cs', h1, h2⟩ := hx i (by omega)
      rw [ce] at h1
      obtain ⟨_, hlen, hcell⟩ := World.cells?_some h1
      obtain ⟨xs, k', hk, hxy, _, hxl, hf⟩ := DataW.trod_struct he h2
      match xs, hxl, cs', hlen with
      | [y0, y1], _, [v0, v1], _ =>
        have g0 := hf 0 f0 rfl
        have g1 := hf 1 f1 rfl
        simp [o0, o1, c0, c1] at g0 g1
        obtain ⟨s0, hs0, rfl, _⟩ := DataW.trod_string u0 g0
        obtain ⟨s1, hs1, rfl, _⟩ := DataW.trod_string u1 g1
        cases hs0; cases hs1
        have e0 := hcell 0 (by omega)
        have e1 := hcell 1 (by omega)
        rw [add_add] at e0 e1
        simp only [Prod.mk.injEq] at hxy
        exact ⟨(s0, s1), by simpa using hxy.1, by simpa using e0, by simpa using e1⟩
    have each' : ∃ A : Nat → ByteArray × ByteArray, ∀ i, i < n → D i = .agg [.lit (.string (A i).1.data.toList), .lit (.string (A i).2.data.toList)] ∧
        w.cell? (a'.add (i * 2)) = some (.string (A i).1) ∧ w.cell? (a'.add (i * 2 + 1)) = some (.string (A i).2) := choose_lt each
    obtain ⟨A, hA⟩ := each'
    exact .inr ⟨a', D, A, _, rfl, hl, hm, rfl, hA⟩

theorem weights_allP {H : Type} {P : Program} {e : TypeId} : ∀ {ds : List (DataW H)} {d : DataW H}, d ∈ ds → ∀ q ∈ d.weights P e, q ∈ DataW.weightsAll P e ds
  | d0 :: ds, d, hd, q, hq => by
    simp only [DataW.weightsAll, List.mem_append]
    rcases List.mem_cons.1 hd with rfl | hd
    · exact .inl hq
    · exact .inr (weights_allP hd q hq)
theorem pairsV_cell {l : List (ByteArray × ByteArray)} {w : World} {b o : Nat} (h : ∀ i, i < l.length → w.cell? ⟨b, o + i * 2, none⟩ = some (.string (l.getD i default).1) ∧ w.cell? ⟨b, o + i * 2 + 1, none⟩ = some (.string (l.getD i default).2)) (j : Nat) (u : Value) (hj : (pairsV l)[j]? = some u) : w.cell? ⟨b, o + j, none⟩ = some u := by
  have hl : j < (pairsV l).length := (List.getElem?_eq_some_iff.1 hj).1
  rw [pairsV_length] at hl
  have hi : j / 2 < l.length := by omega
  rcases Nat.mod_two_eq_zero_or_one j with e | e
  · have ej : j = j / 2 * 2 := by omega
    have hk := pairsV_key hi
    rw [← ej, hj] at hk
    rw [Option.some.inj hk]
    have := (h _ hi).1
    rwa [← ej] at this
  · have ej : j = j / 2 * 2 + 1 := by omega
    have hk := pairsV_val hi
    rw [← ej, hj] at hk
    rw [Option.some.inj hk]
    have := (h _ hi).2
    rwa [Nat.add_assoc, ← ej] at this

theorem pairs_in {H : Type} {enc : TypeId × Value → H} {P : Program} {w : World} {base : Nat} {spare : Nat → Bool} {held : Bool} {t e : TypeId} {f0 f1 : Field} {fuel : Nat} {a : Option Addr} {n c : Nat} {x : DataW H × List MemPlace}
    (ht : P.underlying t = some (.slice e)) (he : P.underlying e = some (.struct #[f0, f1])) (ce : P.cellsOf e = 2) (o0 : f0.offset = 0) (o1 : f1.offset = 1)
    (c0 : P.cellsOf f0.type = 1) (c1 : P.cellsOf f1.type = 1) (u0 : P.underlying f0.type = some .string) (u1 : P.underlying f1.type = some .string)
    (h : DataW.trod enc P w base spare held fuel t (Value.cells (.slice a n c)).toList = some x) (hw : ∀ q ∈ x.1.weights P t, q ≤ reachBytes) :
    ∃ zs : List (ByteArray × ByteArray), HasP w (.slice a n c) zs ∧ InP zs ∧ (n : Int) ≤ 9223372036854775807 := by
  rcases pairs_cells ht he ce o0 o1 c0 c1 u0 u1 h with ⟨rfl, rfl, rfl⟩ | ⟨a', D, A, sp, rfl, hl, hm, hx, hA⟩
  · exact ⟨[], HasP.nil0 w, (fun _ h => by cases h), by omega⟩
  · have hlen : ((List.range n).map A).length = n := by simp
    have hget : ∀ i, i < n → ((List.range n).map A).getD i default = A i := fun i hi => by simp [List.getD_eq_getElem?_getD, hi]
    have hsz : ∀ i, i < n → (A i).1.size ≤ 140737488351232 ∧ (A i).2.size ≤ 140737488351232 := fun i hi => by
      have hin : ∀ q ∈ (D i).weights P e, q ≤ reachBytes := fun q hq => hw q (by
        rw [hx]
        simp only [DataW.weights, ht, List.mem_cons, List.mem_append]
        exact .inr (.inl (weights_allP (List.mem_map.2 ⟨i, List.mem_range.2 hi, rfl⟩) q hq)))
      rw [(hA i hi).1] at hin
      simp [DataW.weights, he, DataW.weightsEach, reachBytes] at hin
      exact hin
    refine ⟨(List.range n).map A, ⟨some a', c, by rw [hlen], by rw [hlen]; exact hl, (fun h => by cases h), fun h0 => ?_⟩, fun p hp => ?_, by unfold maxLen at hm; omega⟩
    · rw [hlen] at h0
      obtain ⟨b, o, s⟩ := a'
      obtain rfl : s = none := by simpa [Addr.add] using World.cell?_spot (hA 0 h0).2.1
      refine ⟨b, o, rfl, World.block_lt_of_cell? w _ (hA 0 h0).2.1, pairsV_cell fun i hi => ?_⟩
      rw [hlen] at hi
      obtain ⟨_, h1, h2⟩ := hA i hi
      rw [hget i hi]
      rw [Go.WideShapes.add_plain] at h1 h2
      exact ⟨h1, h2⟩
    · obtain ⟨i, hi, rfl⟩ := List.mem_map.1 hp
      exact hsz i (List.mem_range.1 hi)

theorem three_of {α : Type} : ∀ (a : Array α), a.size = 3 → ∃ x y z, a = #[x, y, z]
  | ⟨[x, y, z]⟩, _ => ⟨x, y, z, rfl⟩
theorem two_ofP {α : Type} : ∀ (a : Array α), a.size = 2 → ∃ x y, a = #[x, y]
  | ⟨[x, y]⟩, _ => ⟨x, y, rfl⟩

set_option maxRecDepth 100000 in
theorem open_ask {H : Type} {enc : TypeId × Value → H} {W : World} {spare : Nat → Bool} {held : Bool} {b0 base : Nat} {v : Value} {d : DataW H} {p : List MemPlace} (hv : Value.okWide Tryd.prog W .any b0 27 v) (h : DataW.Trod enc Tryd.prog W base spare held 27 v d p) :
    ∃ (f u : ByteArray) (n : Int), v = .agg #[.string f, .string u, .int .i64 n] ∧ (-9223372036854775808 ≤ n ∧ n ≤ 9223372036854775807) := by
  obtain ⟨cs, rfl, hsz⟩ := okWide_struct Tryd.underlying27 hv
  rw [show Tryd.prog.cellsOf 27 = 3 by kernel_rfl] at hsz
  obtain ⟨c0, c1, c2, rfl⟩ := three_of cs hsz
  obtain ⟨fuel, hf⟩ := h
  obtain ⟨xs, k', hk, hxy, _, hxl, hfs⟩ := DataW.trod_struct Tryd.underlying27 hf
  match xs, hxl with
  | [y0, y1, y2], _ =>
    have g0 := hfs 0 _ rfl
    have g1 := hfs 1 _ rfl
    have g2 := hfs 2 _ rfl
    simp [show Tryd.prog.cellsOf 9 = 1 by kernel_rfl, show Tryd.prog.cellsOf 3 = 1 by kernel_rfl, Value.cells] at g0 g1 g2
    obtain ⟨s0, hs0, -, -⟩ := DataW.trod_string Tryd.underlying9 g0
    obtain ⟨s1, hs1, -, -⟩ := DataW.trod_string Tryd.underlying9 g1
    obtain ⟨z, hz, -, wz⟩ := DataW.trod_int Tryd.underlying3 g2
    cases hs0; cases hs1; cases hz
    exact ⟨s0, s1, z, rfl, bounds_i64 wz⟩

set_option maxRecDepth 100000 in
theorem open_two {H : Type} {enc : TypeId × Value → H} {W : World} {spare : Nat → Bool} {held : Bool} {b0 base : Nat} {v : Value} {d : DataW H} {p : List MemPlace} (hv : Value.okWide Tryd.prog W .any b0 50 v) (h : DataW.Trod enc Tryd.prog W base spare held 50 v d p) (hw : ∀ q ∈ d.weights Tryd.prog 50, q ≤ reachBytes) :
    ∃ (a : Option Addr) (n c : Nat) (xs : List (ByteArray × ByteArray)) (a' : Option Addr) (n' c' : Nat) (ys : List (ByteArray × ByteArray)), v = .agg #[.slice a n c, .slice a' n' c'] ∧ HasP W (.slice a n c) xs ∧ InP xs ∧ (n : Int) ≤ 9223372036854775807 ∧ HasP W (.slice a' n' c') ys ∧ InP ys ∧ (n' : Int) ≤ 9223372036854775807 := by
  obtain ⟨cs, rfl, hsz⟩ := okWide_struct Tryd.underlying50 hv
  rw [show Tryd.prog.cellsOf 50 = 2 by kernel_rfl] at hsz
  obtain ⟨c0, c1, rfl⟩ := two_ofP cs hsz
  obtain ⟨fuel, hf⟩ := h
  obtain ⟨xs, k', hk, hxy, _, hxl, hfs⟩ := DataW.trod_struct Tryd.underlying50 hf
  match xs, hxl with
  | [y0, y1], _ =>
    have g0 := hfs 0 _ rfl
    have g1 := hfs 1 _ rfl
    simp [show Tryd.prog.cellsOf 25 = 1 by kernel_rfl, Value.cells] at g0 g1
    simp only [Prod.mk.injEq, List.map_cons, List.map_nil] at hxy
    obtain ⟨rfl, -⟩ := hxy
    have hw' := hw
    simp only [DataW.weights, Tryd.underlying50, DataW.weightsEach, List.map_cons, List.map_nil, List.append_nil, List.mem_append] at hw'
    have hs : ∀ {n : Nat} {c : Value} {y : DataW H × List MemPlace}, DataW.trod enc Tryd.prog W base spare held n 25 [c] = some y → ∃ a m k, c = .slice a m k := fun hc => by
      rcases open_slice Tryd.underlying25 hc with ⟨hcs, _⟩ | ⟨a', len, cap, m, k, D, Pl, hcs, _⟩
      · simp at hcs; exact ⟨_, _, _, hcs⟩
      · simp at hcs; exact ⟨_, _, _, hcs⟩
    obtain ⟨a, n, c, rfl⟩ := hs g0
    obtain ⟨a', n', c', rfl⟩ := hs g1
    obtain ⟨xs, x1, x2, x3⟩ := pairs_in Tryd.underlying25 Tryd.underlying33 (by kernel_rfl) rfl rfl (by kernel_rfl) (by kernel_rfl) Tryd.underlying9 Tryd.underlying9 (x := y0) g0 fun q hq => hw' q (.inl hq)
    obtain ⟨ys, z1, z2, z3⟩ := pairs_in Tryd.underlying25 Tryd.underlying33 (by kernel_rfl) rfl rfl (by kernel_rfl) (by kernel_rfl) Tryd.underlying9 Tryd.underlying9 (x := y1) g1 fun q hq => hw' q (.inr hq)
    exact ⟨a, n, c, xs, a', n', c', ys, rfl, x1, x2, x3, z1, z2, z3⟩
end Go.Proofs.YthlghokgknkpaaaDoor

/-
  The walk of corbellaw07.lives: the document's example.
-/
namespace Go.Proofs.YthlghokgknkpaaaDoor
open Go.RowKit Go.Shelf Go.Lib

set_option maxRecDepth 100000 in
set_option maxHeartbeats 4000000 in
theorem lives7_any (w : World) (hT : Tab w) : Calls Tryd.prog 8 #[] w fun e w' => e = .returned (.bool true) ∧ Below w.heap.size w w' := by
  have hw0 := hT.1
  have hnew := new_any_s 0 0 0 w (by omega) (by omega) (by decide)
  rw [show (needI 0).toNat = 1 by decide] at hnew
  have heq : ∀ (a b : ByteArray × ByteArray) (W : World), Sem.run Tryd.prog (binOp .eql 33 (.agg #[.string a.1, .string a.2]) (.agg #[.string b.1, .string b.2])) W = .ok (.bool (decide (a = b))) W := eqlP.1
  have hgd : ∀ (op : BinOp) (o1 o2 : Operand) (a b : ByteArray × ByteArray) (W : World), Sem.run Tryd.prog (eqGuard op 33 o1 o2 (.agg #[.string a.1, .string a.2]) (.agg #[.string b.1, .string b.2])) W = .ok () W := eqlP.2
  have heq1 := fun W => heq (⟨#[97]⟩, ⟨#[49]⟩) (⟨#[97]⟩, ⟨#[49]⟩) W
  have hgd1 := fun op o1 o2 W => hgd op o1 o2 (⟨#[97]⟩, ⟨#[49]⟩) (⟨#[97]⟩, ⟨#[49]⟩) W
  rw [decide_eq_true rfl] at heq1
  dsimp only at heq1 hgd1
  clear heq hgd
  go_enter Tryd.func8, Tryd.ntmps8
  go_wp2_with fail
  refine hnew.mono ?_
  rintro e w1 ⟨b, bw, bs, rfl, hl1, g1, g2, g3, hb1⟩
  have h1 := one7_new (Below.refl _ w) hl1 (by decide) g1 g2 g3 hb1
  have hp1 := h1.put hT (by omega) (⟨#[98]⟩, ⟨#[50]⟩) (by exact ⟨by show 1 ≤ _; omega, by show 1 ≤ _; omega⟩)
  clear hnew hl1 g1 g2 g3 hb1
  go_wp2_with fail
  refine hp1.mono ?_
  rintro e w2 ⟨⟨x1, y1, rfl⟩, h2, -⟩
  have hp2 := h2.put hT (by omega) (⟨#[97]⟩, ⟨#[49]⟩) (by exact ⟨by show 1 ≤ _; omega, by show 1 ≤ _; omega⟩)
  clear hp1
  go_wp2_with fail
  refine hp2.mono ?_
  rintro e w3 ⟨⟨x2, y2, rfl⟩, h3, -⟩
  clear hp2 h1 h2
  have hr := h3.range hT (by omega) ⟨#[97]⟩ ⟨#[]⟩ 1 (by omega)
  rw [live_put, live_cut] at hr
  go_wp2_with fail
  refine hr.mono ?_
  rintro e w4 ⟨v4, rfl, ho4, hb4⟩
  have h4 := h3.below hb4
  have hx := h4.exp hT (by omega)
  rw [live_put, live_exp] at hx
  obtain ⟨p4, c4, rfl, -, -, -⟩ := id ho4.has
  clear hr h3
  go_wp2_with fail
  refine hx.mono ?_
  rintro e w5 ⟨v5, rfl, ho5, hb5⟩
  have h5 := h4.below hb5
  have ho45 := ho4.below hb5 (Nat.le_refl _)
  clear hx h4 ho4
  have hlit := Has.lit w5 [2, 1, 97, 1, 49, 1, 98, 1, 50] 5
  have hba : Below w5.heap.size w5 (w5.alloc (.cells ([2, 1, 97, 1, 49, 1, 98, 1, 50].map (Value.int .u8)).toArray 5)) := (Below.refl _ _).alloc (Nat.le_refl _) _
  have hsm := same_any v5 _ _ _ _ (ho5.has.below hba (Nat.le_refl _)) hlit live_isB live_isB
  have h6 := h5.below hba
  have ho46 := ho45.below hba (Nat.le_refl _)
  simp only [List.length_cons, List.length_nil, Nat.reduceAdd, List.map_cons, List.map_nil] at hsm h6 hba ho46
  rw [show (([2, 1, 97, 1, 49, 1, 98, 1, 50] : List Int) == [2, 1, 97, 1, 49, 1, 98, 1, 50]) = true by decide] at hsm
  clear hlit ho5 ho45
  go_wp2_with fail
  generalize w5.alloc _ = w6 at *
  refine same_mono hsm ?_
  obtain ⟨bb, oo, rfl, hbb, hcc, -, c1, c2⟩ := ho46.has.at (j := 0) (by simp)
  simp only [Nat.zero_mul, Nat.add_zero, List.getD_cons_zero] at c1 c2
  clear hsm ho46
  obtain ⟨⟨bw6, bs6, hl6, -⟩, hf6, -⟩ := id h6
  have hcp := copy_any_s b bw6 bs6 _ w6 hl6 hf6.inv.fit hf6.inv.typed
  go_wp2_with fail
  refine hcp.mono ?_
  rintro e w7 ⟨d, dw, ds, rfl, hl7, f1, f2, f3, hb7⟩
  have h7 := h6.more hl7 hf6 f1 f2 f3 hb7
  have hsame := h7.one.same h7.swap.one hT (by omega) (by omega)
  rw [decide_eq_true rfl] at hsame
  clear hcp hl6 hf6 hl7 f1 f2 f3 c1 c2
  go_wp2_with fail
  refine hsame.mono ?_
  rintro e w8 ⟨rfl, hb8⟩
  go_wp2
  go_ret
  exact ⟨rfl, h7.bel.trans (hb8.mono h7.bel.size)⟩
end Go.Proofs.YthlghokgknkpaaaDoor

/-
  Regions whose every order ends in one way, but for some numbers.
-/
namespace Go.Proofs.YthlghokgknkpaaaDoor
open Go.RowKit Go.Shelf

/-- A region whose every order ends in one way, but for two numbers. -/
def EndIn (R : Nat → Nat → World → Prop) (A : Nat → Nat → Act) : Exit → Act → World → Prop
  | .normal, a, w => ∃ x y, a = A x y ∧ R x y w
  | _, _, _ => False
theorem EndIn.mk {R : Nat → Nat → World → Prop} {A : Nat → Nat → Act} {w : World} (x y : Nat) (h : R x y w) : EndIn R A .normal (A x y) w := ⟨x, y, rfl, h⟩
theorem some_end {P : Program} {id : Nat} {ops : Array Oper} {b : Bool} {Q : Exit → Act → World → Prop} {a : Act} {w : World} (R : Nat → Nat → World → Prop) {A : Nat → Nat → Act}
    (h : (Code.region id ops b).wp P (EndIn R A) a w) (k : ∀ x y W, R x y W → Q .normal (A x y) W) : (Code.region id ops b).wp P Q a w :=
  Code.wp_mono (fun e a w h => by cases e <;> first | (obtain ⟨x, y, rfl, hr⟩ := h; exact k x y w hr) | exact h.elim) h
/-- The same, but for one number. -/
def EndN (R : Nat → World → Prop) (A : Nat → Act) : Exit → Act → World → Prop
  | .normal, a, w => ∃ x, a = A x ∧ R x w
  | _, _, _ => False
theorem EndN.mk {R : Nat → World → Prop} {A : Nat → Act} {w : World} (x : Nat) (h : R x w) : EndN R A .normal (A x) w := ⟨x, rfl, h⟩
theorem num_end {P : Program} {id : Nat} {ops : Array Oper} {b : Bool} {Q : Exit → Act → World → Prop} {a : Act} {w : World} (R : Nat → World → Prop) {A : Nat → Act}
    (h : (Code.region id ops b).wp P (EndN R A) a w) (k : ∀ x W, R x W → Q .normal (A x) W) : (Code.region id ops b).wp P Q a w :=
  Code.wp_mono (fun e a w h => by cases e <;> first | (obtain ⟨x, rfl, hr⟩ := h; exact k x w hr) | exact h.elim) h
end Go.Proofs.YthlghokgknkpaaaDoor
