import Derived.Test.YthlghokgknkpaaaGreatDoorImFTo
import Derived.ProofKit
import Derived.OpenShut
import Derived.Deep.SlicePairs
import Derived.SizedLaws
import Derived.ChangeSame
import Derived.BigQuiet
/-
  From a row's own words to this proof's: a slice of pairs that came in, a range of keys, two slices of pairs.
-/
namespace Go.Proofs.YthlghokgknkpaaaGreatDoor
open Go.ChangeShapes Go.WideShapes Go.ChangeAt Go.RowKit Go.Deep

theorem pairs_cells {H : Type} {enc : TypeId × Value → H} {P : Program} {w : World} {base : Nat} {spare : Nat → Bool} {held : Bool} {t e : TypeId} {f0 f1 : Field} {fuel : Nat} {a : Option Addr} {n c : Nat} {x : DataW H × List MemPlace}
    (ht : P.underlying t = some (.slice e)) (he : P.underlying e = some (.struct #[f0, f1])) (ce : P.cellsOf e = 2) (o0 : f0.offset = 0) (o1 : f1.offset = 1)
    (c0 : P.cellsOf f0.type = 1) (c1 : P.cellsOf f1.type = 1) (u0 : P.underlying f0.type = some .string) (u1 : P.underlying f1.type = some .string)
    (h : DataW.trod enc P w base spare held fuel t (Value.cells (.slice a n c)).toList = some x) :
    (a = none ∧ n = 0 ∧ c = 0) ∨
    ∃ (a' : Addr) (D : Nat → DataW H) (A : Nat → ByteArray × ByteArray) (sp : List (DataW H)), a = some a' ∧ n ≤ c ∧ c ≤ maxLen ∧ x.1 = .slice ((List.range n).map D) sp ∧
      ∀ i, i < n → D i = .agg [.lit (.string (A i).1.data.toList), .lit (.string (A i).2.data.toList)] ∧
        w.cell? (a'.add (i * 2)) = some (.string (A i).1) ∧ w.cell? (a'.add (i * 2 + 1)) = some (.string (A i).2) := by
  rcases open_slice ht h with ⟨hcs, _⟩ | ⟨a', len, cap, m, k, D, Pl, hcs, hb, hl, hm, hmm, rfl, hx⟩
  · simp [Value.cells] at hcs
    exact .inl ⟨hcs.1, hcs.2.1, hcs.2.2⟩
  · simp [Value.cells] at hcs
    obtain ⟨rfl, rfl, rfl⟩ := hcs
    have hlm : n ≤ m := by rw [hmm]; split <;> omega
    have each : ∀ i, i < n → ∃ A : ByteArray × ByteArray, D i = .agg [.lit (.string A.1.data.toList), .lit (.string A.2.data.toList)] ∧
        w.cell? (a'.add (i * 2)) = some (.string A.1) ∧ w.cell? (a'.add (i * 2 + 1)) = some (.string A.2) := by
      intro i hi
      obtain ⟨cs', h1, h2⟩ := hx i (by omega)
      rw [ce] at h1
      obtain ⟨_, hlen, hcell⟩ := World.cells?_some h1
      obtain ⟨xs, k', hk, hxy, _, hxl, hf⟩ := DataW.trod_struct he h2
      match xs, hxl, cs', hlen with
      | [y0, y1], _, [v0, v1], _ =>
        have g0 := hf 0 f0 rfl
        have g1 := hf 1 f1 rfl
        simp [o0, o1, c0, c1] at g0 g1
        obtain ⟨s0, hs0, rfl, _⟩ := DataW.trod_string u0 g0
        obtain ⟨s1, hs1, rfl, _⟩ := DataW.trod_string u1 g1
        cases hs0; cases hs1
        have e0 := hcell 0 (by omega)
        have e1 := hcell 1 (by omega)
        rw [add_add] at e0 e1
        simp only [Prod.mk.injEq] at hxy
        exact ⟨(s0, s1), by simpa using hxy.1, by simpa using e0, by simpa using e1⟩
    have each' : ∃ A : Nat → ByteArray × ByteArray, ∀ i, i < n → D i = .agg [.lit (.string (A i).1.data.toList), .lit (.string (A i).2.data.toList)] ∧
        w.cell? (a'.add (i * 2)) = some (.string (A i).1) ∧ w.cell? (a'.add (i * 2 + 1)) = some (.string (A i).2) := choose_lt each
    obtain ⟨A, hA⟩ := each'
    exact .inr ⟨a', D, A, _, rfl, hl, hm, rfl, hA⟩

theorem weights_allP {H : Type} {P : Program} {e : TypeId} : ∀ {ds : List (DataW H)} {d : DataW H}, d ∈ ds → ∀ q ∈ d.weights P e, q ∈ DataW.weightsAll P e ds
  | d0 :: ds, d, hd, q, hq => by
    simp only [DataW.weightsAll, List.mem_append]
    rcases List.mem_cons.1 hd with rfl | hd
    · exact .inl hq
    · exact .inr (weights_allP hd q hq)
theorem pairsV_cell {l : List (ByteArray × ByteArray)} {w : World} {b o : Nat} (h : ∀ i, i < l.length → w.cell? ⟨b, o + i * 2, none⟩ = some (.string (l.getD i default).1) ∧ w.cell? ⟨b, o + i * 2 + 1, none⟩ = some (.string (l.getD i default).2)) (j : Nat) (u : Value) (hj : (pairsV l)[j]? = some u) : w.cell? ⟨b, o + j, none⟩ = some u := by
  have hl : j < (pairsV l).length := (List.getElem?_eq_some_iff.1 hj).1
  rw [pairsV_length] at hl
  have hi : j / 2 < l.length := by omega
  rcases Nat.mod_two_eq_zero_or_one j with e | e
  · have ej : j = j / 2 * 2 := by omega
    have hk := pairsV_key hi
    rw [← ej, hj] at hk
    rw [Option.some.inj hk]
    have := (h _ hi).1
    rwa [← ej] at this
  · have ej : j = j / 2 * 2 + 1 := by omega
    have hk := pairsV_val hi
    rw [← ej, hj] at hk
    rw [Option.some.inj hk]
    have := (h _ hi).2
    rwa [Nat.add_assoc, ← ej] at this

theorem pairs_in {H : Type} {enc : TypeId × Value → H} {P : Program} {w : World} {base : Nat} {spare : Nat → Bool} {held : Bool} {t e : TypeId} {f0 f1 : Field} {fuel : Nat} {a : Option Addr} {n c : Nat} {x : DataW H × List MemPlace}
    (ht : P.underlying t = some (.slice e)) (he : P.underlying e = some (.struct #[f0, f1])) (ce : P.cellsOf e = 2) (o0 : f0.offset = 0) (o1 : f1.offset = 1)
    (c0 : P.cellsOf f0.type = 1) (c1 : P.cellsOf f1.type = 1) (u0 : P.underlying f0.type = some .string) (u1 : P.underlying f1.type = some .string)
    (h : DataW.trod enc P w base spare held fuel t (Value.cells (.slice a n c)).toList = some x) (hw : ∀ q ∈ x.1.weights P t, q ≤ reachBytes) :
    ∃ zs : List (ByteArray × ByteArray), HasP w (.slice a n c) zs ∧ InP zs ∧ (n : Int) ≤ 9223372036854775807 := by
  rcases pairs_cells ht he ce o0 o1 c0 c1 u0 u1 h with ⟨rfl, rfl, rfl⟩ | ⟨a', D, A, sp, rfl, hl, hm, hx, hA⟩
  · exact ⟨[], HasP.nil0 w, (fun _ h => by cases h), by omega⟩
  · have hlen : ((List.range n).map A).length = n := by simp
    have hget : ∀ i, i < n → ((List.range n).map A).getD i default = A i := fun i hi => by simp [List.getD_eq_getElem?_getD, hi]
    have hsz : ∀ i, i < n → (A i).1.size ≤ 140737488351232 ∧ (A i).2.size ≤ 140737488351232 := fun i hi => by
      have hin : ∀ q ∈ (D i).weights P e, q ≤ reachBytes := fun q hq => hw q (by
        rw [hx]
        simp only [DataW.weights, ht, List.mem_cons, List.mem_append]
        exact .inr (.inl (weights_allP (List.mem_map.2 ⟨i, List.mem_range.2 hi, rfl⟩) q hq)))
      rw [(hA i hi).1] at hin
      simp [DataW.weights, he, DataW.weightsEach, reachBytes] at hin
      exact hin
    refine ⟨(List.range n).map A, ⟨some a', c, by rw [hlen], by rw [hlen]; exact hl, (fun h => by cases h), fun h0 => ?_⟩, fun p hp => ?_, by unfold maxLen at hm; omega⟩
    · rw [hlen] at h0
      obtain ⟨b, o, s⟩ := a'
      obtain rfl : s = none := by simpa [Addr.add] using World.cell?_spot (hA 0 h0).2.1
      refine ⟨b, o, rfl, World.block_lt_of_cell? w _ (hA 0 h0).2.1, pairsV_cell fun i hi => ?_⟩
      rw [hlen] at hi
      obtain ⟨_, h1, h2⟩ := hA i hi
      rw [hget i hi]
      rw [Go.WideShapes.add_plain] at h1 h2
      exact ⟨h1, h2⟩
    · obtain ⟨i, hi, rfl⟩ := List.mem_map.1 hp
      exact hsz i (List.mem_range.1 hi)

theorem three_of {α : Type} : ∀ (a : Array α), a.size = 3 → ∃ x y z, a = #[x, y, z]
  | ⟨[x, y, z]⟩, _ => ⟨x, y, z, rfl⟩
theorem two_ofP {α : Type} : ∀ (a : Array α), a.size = 2 → ∃ x y, a = #[x, y]
  | ⟨[x, y]⟩, _ => ⟨x, y, rfl⟩

set_option maxRecDepth 100000 in
theorem open_ask {H : Type} {enc : TypeId × Value → H} {W : World} {spare : Nat → Bool} {held : Bool} {b0 base : Nat} {v : Value} {d : DataW H} {p : List MemPlace} (hv : Value.okWide Tryz.prog W .any b0 27 v) (h : DataW.Trod enc Tryz.prog W base spare held 27 v d p) :
    ∃ (f u : ByteArray) (n : Int), v = .agg #[.string f, .string u, .int .i64 n] ∧ (-9223372036854775808 ≤ n ∧ n ≤ 9223372036854775807) := by
  obtain ⟨cs, rfl, hsz⟩ := okWide_struct Tryz.underlying27 hv
  rw [show Tryz.prog.cellsOf 27 = 3 by kernel_rfl] at hsz
  obtain ⟨c0, c1, c2, rfl⟩ := three_of cs hsz
  obtain ⟨fuel, hf⟩ := h
  obtain ⟨xs, k', hk, hxy, _, hxl, hfs⟩ := DataW.trod_struct Tryz.underlying27 hf
  match xs, hxl with
  | [y0, y1, y2], _ =>
    have g0 := hfs 0 _ rfl
    have g1 := hfs 1 _ rfl
    have g2 := hfs 2 _ rfl
    simp [show Tryz.prog.cellsOf 9 = 1 by kernel_rfl, show Tryz.prog.cellsOf 3 = 1 by kernel_rfl, Value.cells] at g0 g1 g2
    obtain ⟨s0, hs0, -, -⟩ := DataW.trod_string Tryz.underlying9 g0
    obtain ⟨s1, hs1, -, -⟩ := DataW.trod_string Tryz.underlying9 g1
    obtain ⟨z, hz, -, wz⟩ := DataW.trod_int Tryz.underlying3 g2
    cases hs0; cases hs1; cases hz
    exact ⟨s0, s1, z, rfl, bounds_i64 wz⟩
end Go.Proofs.YthlghokgknkpaaaGreatDoor

/-
  The walk of corbellaw07.lives: the document's example.
-/
namespace Go.Proofs.YthlghokgknkpaaaGreatDoor
open Go.RowKit Go.Shelf Go.Lib

set_option maxRecDepth 100000 in
set_option maxHeartbeats 4000000 in
theorem lives7_any (w : World) (hT : Tab w) : Calls Tryz.prog 9 #[] w fun e w' => e = .returned (.bool true) ∧ Below w.heap.size w w' := by
  have hw0 := hT.1
  have hnew := new_any_s 0 0 0 w (by omega) (by omega) (by decide)
  rw [show (needI 0).toNat = 1 by decide] at hnew
  have heq : ∀ (a b : ByteArray × ByteArray) (W : World), Sem.run Tryz.prog (binOp .eql 35 (.agg #[.string a.1, .string a.2]) (.agg #[.string b.1, .string b.2])) W = .ok (.bool (decide (a = b))) W := eqlP.1
  have hgd : ∀ (op : BinOp) (o1 o2 : Operand) (a b : ByteArray × ByteArray) (W : World), Sem.run Tryz.prog (eqGuard op 35 o1 o2 (.agg #[.string a.1, .string a.2]) (.agg #[.string b.1, .string b.2])) W = .ok () W := eqlP.2
  have heq1 := fun W => heq (⟨#[97]⟩, ⟨#[49]⟩) (⟨#[97]⟩, ⟨#[49]⟩) W
  have hgd1 := fun op o1 o2 W => hgd op o1 o2 (⟨#[97]⟩, ⟨#[49]⟩) (⟨#[97]⟩, ⟨#[49]⟩) W
  rw [decide_eq_true rfl] at heq1
  dsimp only at heq1 hgd1
  clear heq hgd
  go_enter Tryz.func9, Tryz.ntmps9
  go_wp2_with fail
  refine hnew.mono ?_
  rintro e w1 ⟨b, bw, bs, rfl, hl1, g1, g2, g3, hb1⟩
  have h1 := one7_new (Below.refl _ w) hl1 (by decide) g1 g2 g3 hb1
  have hp1 := h1.put hT (by omega) (⟨#[98]⟩, ⟨#[50]⟩) (by exact ⟨by show 1 ≤ _; omega, by show 1 ≤ _; omega⟩)
  clear hnew hl1 g1 g2 g3 hb1
  go_wp2_with fail
  refine hp1.mono ?_
  rintro e w2 ⟨⟨x1, y1, rfl⟩, h2, -⟩
  have hp2 := h2.put hT (by omega) (⟨#[97]⟩, ⟨#[49]⟩) (by exact ⟨by show 1 ≤ _; omega, by show 1 ≤ _; omega⟩)
  clear hp1
  go_wp2_with fail
  refine hp2.mono ?_
  rintro e w3 ⟨⟨x2, y2, rfl⟩, h3, -⟩
  clear hp2 h1 h2
  have hr := h3.range hT (by omega) ⟨#[97]⟩ ⟨#[]⟩ 1 (by omega)
  rw [live_put, live_cut] at hr
  go_wp2_with fail
  refine hr.mono ?_
  rintro e w4 ⟨v4, rfl, ho4, hb4⟩
  have h4 := h3.below hb4
  have hx := h4.exp hT (by omega)
  rw [live_put, live_exp] at hx
  obtain ⟨p4, c4, rfl, -, -, -⟩ := id ho4.has
  clear hr h3
  go_wp2_with fail
  refine hx.mono ?_
  rintro e w5 ⟨v5, rfl, ho5, hb5⟩
  have h5 := h4.below hb5
  have ho45 := ho4.below hb5 (Nat.le_refl _)
  clear hx h4 ho4
  have hlit := Has.lit w5 [2, 1, 97, 1, 49, 1, 98, 1, 50] 5
  have hba : Below w5.heap.size w5 (w5.alloc (.cells ([2, 1, 97, 1, 49, 1, 98, 1, 50].map (Value.int .u8)).toArray 5)) := (Below.refl _ _).alloc (Nat.le_refl _) _
  have hsm := same_any v5 _ _ _ _ (ho5.has.below hba (Nat.le_refl _)) hlit live_isB live_isB
  have h6 := h5.below hba
  have ho46 := ho45.below hba (Nat.le_refl _)
  simp only [List.length_cons, List.length_nil, Nat.reduceAdd, List.map_cons, List.map_nil] at hsm h6 hba ho46
  rw [show (([2, 1, 97, 1, 49, 1, 98, 1, 50] : List Int) == [2, 1, 97, 1, 49, 1, 98, 1, 50]) = true by decide] at hsm
  clear hlit ho5 ho45
  go_wp2_with fail
  generalize w5.alloc _ = w6 at *
  refine same_mono hsm ?_
  obtain ⟨bb, oo, rfl, hbb, hcc, -, c1, c2⟩ := ho46.has.at (j := 0) (by simp)
  simp only [Nat.zero_mul, Nat.add_zero, List.getD_cons_zero] at c1 c2
  clear hsm ho46
  obtain ⟨⟨bw6, bs6, hl6, -⟩, hf6, -⟩ := id h6
  have hcp := copy_any_s b bw6 bs6 _ w6 hl6 hf6.inv.fit hf6.inv.typed
  go_wp2_with fail
  refine hcp.mono ?_
  rintro e w7 ⟨d, dw, ds, rfl, hl7, f1, f2, f3, hb7⟩
  have h7 := h6.more hl7 hf6 f1 f2 f3 hb7
  have hsame := h7.one.same h7.swap.one hT (by omega) (by omega)
  rw [decide_eq_true rfl] at hsame
  clear hcp hl6 hf6 hl7 f1 f2 f3 c1 c2
  go_wp2_with fail
  refine hsame.mono ?_
  rintro e w8 ⟨rfl, hb8⟩
  go_wp2
  go_ret
  exact ⟨rfl, h7.bel.trans (hb8.mono h7.bel.size)⟩
end Go.Proofs.YthlghokgknkpaaaGreatDoor

/-
  Contracts: image.rise, image.read, image.Import.
-/
namespace Go.Proofs.YthlghokgknkpaaaGreatDoor
open Go.RowKit Go.Shelf Go.Lib

theorem riseB_take {l : List (ByteArray × ByteArray)} {i : Nat} (h1 : 1 ≤ i) (hi : i < l.length) (hr : Rise (l.take i)) : Rise (l.take (i + 1)) ↔ ltT (l.getD (i - 1) default).1 (l.getD i default).1 = true := by
  have e1 : l.take i = l.take (i - 1) ++ [l.getD (i - 1) default] := by
    have := ptake_snoc (l := l) (i := i - 1) (by omega)
    rw [show i - 1 + 1 = i by omega] at this
    exact this.symm
  rw [← ptake_snoc hi, e1, rise_snoc, ← e1]
  exact ⟨fun h => h.2, fun h => ⟨hr, h⟩⟩

set_option maxRecDepth 100000 in
set_option maxHeartbeats 1500000 in
theorem rise_any (v : Value) (l : List (ByteArray × ByteArray)) (w : World) (hx : HasP w v l) (hl : l.length ≤ 1099511627776) :
    Calls Tryz.prog 93 #[v] w fun e w' => e = .returned (.bool (riseB l)) ∧ Below w.heap.size w w' := by
  obtain ⟨p, c, rfl, -, -, -⟩ := id hx
  have hmix : Tryz.prog.follows Departure.mixedOrders = true := by kernel_rfl
  have HX : Hid (HasP w (.slice p l.length c) l) := hx
  clear hx
  generalize hN : l.length = N at *
  have HN : Hid (l.length = N) := hN
  clear hN
  go_enter Tryz.func93, Tryz.ntmps93
  go_wp2
  go_loopg [3] N (fun g s3 wr => ∃ i q : Nat, 1 ≤ i ∧ (i ≤ N ∨ i = 1) ∧ N - i ≤ g ∧ s3 = .int .i64 (i : Nat) ∧ wr = w.drewN q ∧ Hid (Rise (l.take i)))
  case atStart =>
    refine ⟨1, 0, Nat.le_refl _, .inr rfl, by omega, rfl, rfl, ?_⟩
    show Rise _
    match l with
    | [] => exact Rise.nil
    | a :: l => rw [List.take_succ_cons, List.take_zero]; exact List.pairwise_singleton _ _
  case round =>
    obtain ⟨i, q, hi1, hiN, hg, rfl, rfl, hr⟩ := hrel
    by_cases hlt : i < N
    · obtain ⟨b1, o1, rfl, hb1, hc1, -, k1, -⟩ := HX.out.at (j := i) hlt
      obtain ⟨b2, o2, e2, -, -, -, k2, -⟩ := HX.out.at (j := i - 1) (by omega)
      cases e2
      have hT := riseB_take hi1 (by rw [HN.out]; exact hlt) hr.out
      have HT : Hid (Rise (l.take (i + 1)) ↔ ltT (l.getD (i - 1) default).1 (l.getD i default).1 = true) := hT
      clear hT
      generalize l.getD i default = x at *
      generalize l.getD (i - 1) default = y at *
      obtain ⟨xk, xv⟩ := x
      obtain ⟨yk, yv⟩ := y
      dsimp only at k1 k2
      have g1 : (w.drewN q).cell? ⟨b1, o1 + i * 2, none⟩ = some (.string xk) := k1
      have g2 : (w.drewN q).cell? ⟨b1, o1 + (i - 1) * 2, none⟩ = some (.string yk) := k2
      clear k1 k2
      have hi2 : (((i : Int) - 1)).toNat = i - 1 := by omega
      have hi3 : (i : Int) - 1 < (N : Int) := by omega
      have hi4 : (0 : Int) ≤ (i : Int) - 1 := by omega
      generalize hwq : w.drewN q = wq at g1 g2 ⊢
      have HW : Hid (w.drewN q = wq) := hwq
      clear hwq
      cases hyx : ltT yk xk with
      | true =>
        have hA : Op.bytesLess xk.toList yk.toList = false := ltT_asymm hyx
        have hB : (xk.toList == yk.toList) = false := by rw [toList_beq, decide_eq_false (fun e => ltT_ne hyx e.symm)]
        have HT2 : Hid (Rise (l.take (i + 1))) := HT.out.2 hyx
        clear hyx
        go_wp2_with fail
        go_big_quiet (fail)
        go_wp2
        go_roundg (N - (i + 1))
        case measure => omega
        case rel => exact ⟨i + 1, q + nq, by omega, .inl (by omega), Nat.le_refl _, by go_num, by rw [← HW.out, World.drewN_drewN], HT2⟩
      | false =>
        have HT2 : Hid (riseB l = false) := by
          show _ = _
          cases hb : riseB l with
          | false => rfl
          | true =>
            have := HT.out.1 (((riseB_iff l).1 hb).take _)
            rw [show ltT yk xk = false from hyx] at this
            cases this
        have hAB : (Op.bytesLess xk.toList yk.toList = true) ∨ (Op.bytesLess xk.toList yk.toList = false ∧ xk = yk) := by
          cases h : ltT xk yk with
          | true => exact .inl h
          | false => exact .inr ⟨h, ltT_tri h hyx⟩
        clear hyx HT
        rcases hAB with hA | ⟨hA, rfl⟩
        all_goals
          go_wp2_with fail
          go_big_quiet (fail)
          go_wp2
          go_ret
          rw [HT2.out]
          exact ⟨rfl, by rw [← HW.out, World.drewN_drewN]; exact below_drewN (Below.refl _ _) _⟩
    · have HT2 : Hid (riseB l = true) := by
        refine (riseB_iff l).2 ?_
        have := hr.out
        rwa [List.take_of_length_le (by rw [HN.out]; omega)] at this
      go_wp2
      go_ret
      rw [HT2.out]
      exact ⟨rfl, below_drewN (Below.refl _ _) _⟩

theorem need7 (n : Nat) (h : n ≤ 2000) : needI (n : Int) ≠ 0 ∧ isGood (((needI (n : Int)).toNat : Nat) : Int) = true := by
  have h0 : needI (n : Int) ≠ 0 ∧ 0 ≤ needI (n : Int) := by
    unfold needI
    repeat' split
    all_goals omega
  refine ⟨h0.1, ?_⟩
  rw [Int.toNat_of_nonneg h0.2]
  exact (need_good n).resolve_left h0.1
theorem frozen7 {W : World} {k : Nat} {c : Array Value} {t : TypeId} (h : W.heap[k]? = some (.cells c t (0, 0))) (j : Nat) : W.frozen? ⟨k, j, none⟩ = false := by simp [World.frozen?, h]
/-- An append to a row of pairs that lies behind block K: what lies ahead of K is as it was. -/
theorem OwnsP.kept7 {w w' : World} {B r : Nat} {v : Value} {l : List (ByteArray × ByteArray)} (h : OwnsP w B v l) (hg : w.grownBy w' (some r)) (hr : r < B) : OwnsP w' B v l := by
  refine World.ownsRow.kept h hg ?_
  cases hv : v.ownBlock with
  | none => exact .inl rfl
  | some k =>
    have := (World.ownsRow.lt h k hv).1
    exact .inr (fun e => by cases e; omega)

set_option maxRecDepth 100000 in
set_option maxHeartbeats 1500000 in
theorem read_any (v : Value) (xs : List Int) (w : World) (hv : Has w v xs) (hB : IsB xs) (hl : xs.length ≤ 1099511627776) :
    Calls Tryz.prog 58 #[v] w fun e w' => ∃ pv, e = .returned (.tuple #[pv, .bool (rdOk xs)]) ∧ OwnsP w' w.heap.size pv (rdE xs).1 ∧ Below w.heap.size w w' := by
  obtain ⟨i1, hi1, hz1, hs1, hb1⟩ := info_parts infoP
  obtain ⟨pb, cb, hvb, -, -, -⟩ := id hv
  generalize hnb : xs.length = nb at hvb
  subst hvb
  clear hnb
  have hbox := heap_alloc_new w (.cells #[.slice pb nb cb, .bool false] 129)
  have hBA : Below w.heap.size w (w.alloc (.cells #[.slice pb nb cb, .bool false] 129)) := (Below.refl _ _).alloc (Nat.le_refl _) _
  have hz0 : (w.alloc (.cells #[.slice pb nb cb, .bool false] 129)).heap.size = w.heap.size + 1 := by simp
  have hmf : ∀ (fn : Fn) (first cap : Array Value) (w : World), (Instr.makeFunc fn first cap).run Tryz.prog w = .ok (.func fn first cap) w := fun _ _ _ _ => rfl
  have hR : Rd (w.alloc (.cells #[.slice pb nb cb, .bool false] 129)) w.heap.size w.heap.size (.slice pb nb cb) xs false :=
    ⟨by simp, Nat.le_refl _, by unfold World.cell?; dsimp only; rw [hbox]; rfl, by unfold World.cell?; dsimp only; rw [hbox]; rfl, frozen7 hbox 0, frozen7 hbox 1, hv.inn.below hBA (Nat.le_refl _)⟩
  have hcnt := count_any 2000 _ _ _ (.slice pb nb cb) xs false hR hB hl (by omega)
  rw [show srcS xs false = xs from rfl] at hcnt
  have hrc := rdC_le xs
  have hbd := countS_bd 2000 xs
  have HI := inv_rd0 xs
  have HL := rd0_length xs
  have HBy := rd0_isB hB
  rw [← hrc.2] at hcnt
  have H0 : Hid (loseS xs false (countS 2000 xs).2 = rd0 xs) := rfl
  have HE : Hid (rdE xs = rdN (rdC xs) (rd0 xs)) := rfl
  have HO : Hid (rdOk xs = (((rdE xs).2.1.isEmpty && !(rdE xs).2.2) && riseB (rdE xs).1)) := rfl
  rw [H0.out] at hcnt
  replace hrc := hrc.1
  generalize rdC xs = N at *
  generalize rd0 xs = s0 at *
  clear hR hbox H0 hbd
  go_enter Tryz.func58, Tryz.ntmps58
  go_wp2_with fail
  generalize w.alloc (.cells #[.slice pb nb cb, .bool false] 129) = W0 at *
  generalize hs : w.heap.size = rb at *
  have Hs : Hid (w.heap.size = rb) := hs
  clear hs
  refine hcnt.mono ?_
  rintro e w1 ⟨rfl, ⟨v1, hR1⟩, hg1⟩
  have hz1' := hg1.size
  have hB1 : Below rb w w1 := hBA.trans ⟨hg1.os, hg1.tape, hg1.output, hg1.size, fun k hk => hg1.block k (by omega) (by intro e; cases e; omega)⟩
  clear hcnt hg1 hBA
  go_wp2
  go_loopw [8, 22] (fun s8 s22 wr => ∃ (j : Nat) (pv v' : Value), pv = s8 ∧ j ≤ N ∧ s22 = .int .i64 (j : Nat) ∧ OwnsP wr (rb + 1) pv (rdN j s0).1 ∧ Rd wr rb rb v' (rdN j s0).2.1 (rdN j s0).2.2 ∧ Below rb w wr) (fun _ s22 _ => N - (intOf s22).toNat)
  case atStart => exact ⟨0, _, v1, rfl, Nat.zero_le _, rfl, OwnsP.nil0 _ _, hR1, hB1⟩
  case round =>
    clear hR1 hB1
    obtain ⟨j, pv, v', hpv, hj, rfl, ho, hR, hB2⟩ := hrel
    subst hpv
    have hI2 := rdN_inv HI j
    have hBy2 := rdN_isB HBy j
    have hln := rdN_length s0 j
    by_cases hlt : j < N
    · have HP : Hid (rdN (j + 1) s0 = ((rdN j s0).1 ++ [(pairS (rdN j s0).2).1], (pairS (rdN j s0).2).2)) := rfl
      have hlj := rdN_len j s0
      generalize rdN j s0 = S at *
      obtain ⟨l, st⟩ := S
      obtain ⟨ys, wr1⟩ := st
      dsimp only at ho hR hI2 hBy2 hln HP hlj
      have ht1 := text_any wr rb rb v' ys wr1 hR hBy2 (by omega)
      rw [hI2.src] at ht1
      have hI3 := hI2.lose (getTextS ys).2
      have hBy3 := loseS_isB hBy2 wr1 (getTextS ys).2
      have hln3 := loseS_length ys wr1 (getTextS ys).2
      have HPS : Hid (pairS (ys, wr1) = ((strOfNums (getTextS ys).1, strOfNums (getTextS (loseS ys wr1 (getTextS ys).2).1).1), loseS (loseS ys wr1 (getTextS ys).2).1 (loseS ys wr1 (getTextS ys).2).2 (getTextS (loseS ys wr1 (getTextS ys).2).1).2)) := rfl
      generalize loseS ys wr1 (getTextS ys).2 = s1 at *
      obtain ⟨zs, wr2⟩ := s1
      dsimp only at ht1 hI3 hBy3 hln3 HPS
      have hlt8 : l.length + 1 ≤ 2000 := by omega
      clear hR
      go_wp2_with fail
      refine ht1.mono ?_
      rintro e w3 ⟨rfl, ⟨v3, hR3⟩, hg3⟩
      have ht2 := text_any w3 rb rb v3 zs wr2 hR3 hBy3 (by omega)
      rw [hI3.src] at ht2
      have ho3 := ho.kept7 hg3 (by omega)
      have hB3 : Below rb w w3 := hB2.trans ⟨hg3.os, hg3.tape, hg3.output, hg3.size, fun k hk => hg3.block k (by have := hB2.size; rw [Hs.out] at this; omega) (by intro e; cases e; omega)⟩
      clear ht1 ho hB2 hg3 hR3
      go_wp2_with fail
      refine ht2.mono ?_
      rintro e w4 ⟨rfl, ⟨v4, hR4⟩, hg4⟩
      have ho4 := ho3.kept7 hg4 (by omega)
      have hB4 : Below rb w w4 := hB3.trans ⟨hg4.os, hg4.tape, hg4.output, hg4.size, fun k hk => hg4.block k (by have := hB3.size; rw [Hs.out] at this; omega) (by intro e; cases e; omega)⟩
      clear ht2 ho3 hB3 hg4
      generalize strOfNums (getTextS ys).1 = xk at *
      generalize strOfNums (getTextS zs).1 = xv at *
      have hrl := hR4.lt
      have hoA := World.ownsRow.alloc ho4 (.cells #[.string xk, .string xv] 35)
      go_wp2_with (at_builtin; refine wpList_append_own _ rfl _ _ 25 rfl (rb + 1) 35 i1 (.agg #[.string ⟨#[]⟩, .string ⟨#[]⟩]) 2 32 Tryz.underlying25 hi1 hz1 hs1 hb1 rfl (by decide) pv l.length (pairsV l) rfl hoA ⟨w4.heap.size, 0, none⟩ 1 1 [.string xk, .string xv] rfl rfl (new_two _ _ _ _) (by simp [Value.oneCell']) (by unfold maxLen; omega) (by omega) (by simp; omega) ?_; intro v5 w5 ho5 hg5 _)
      have hb5 : Below (rb + 1) w4 w5 := ((Below.refl (rb + 1) w4).alloc (by omega) _).grown hg5 (by simp; omega) fun k hk => (World.ownsRow.lt ho4 k hk).1
      go_roundw
      case rel =>
        refine ⟨j + 1, _, v4, rfl, by omega, by go_num, ?_, ?_, hB4.trans (hb5.mono (by omega))⟩
        · rw [HP.out, HPS.out]
          unfold OwnsP
          rw [List.length_append, List.length_singleton, pairsV_append]
          exact ho5
        · rw [HP.out, HPS.out]
          exact hR4.below hb5 (by omega)
      case measure => simp only [intOf]; omega
    · obtain rfl : j = N := by omega
      rw [← HE.out] at ho hR
      have hel := rdE_len xs
      have hend := end_any wr rb rb v' _ _ hR
      generalize hE : rdE xs = E at *
      obtain ⟨l, ys, wr1⟩ := E
      have HEq : Hid (rdE xs = (l, ys, wr1)) := hE
      clear hE
      dsimp only at ho hend HO hel
      have hrs := rise_any pv l wr ho.has (by omega)
      have hBz := hB2.size
      rw [Hs.out] at hBz
      cases hee : (ys.isEmpty && !wr1) with
      | false =>
        rw [hee] at hend
        have HO2 : Hid (rdOk xs = false) := by rw [Hid, HO.out, hee]; rfl
        clear hR HO hee
        go_wp2_with fail
        refine same_mono hend ?_
        go_wp2
        go_ret2
        rw [HO2.out, HEq.out]
        exact ⟨_, rfl, ho.mono (by have := Hs.out; omega), by rw [Hs.out]; exact hB2⟩
      | true =>
        rw [hee] at hend
        have HO2 : Hid (rdOk xs = riseB l) := by rw [Hid, HO.out, hee]; rfl
        clear hR HO hee
        generalize riseB l = r at *
        go_wp2_with fail
        refine same_mono hend ?_
        go_wp2_with fail
        refine hrs.mono ?_
        rintro e w3 ⟨rfl, hb3⟩
        go_wp2
        go_ret2
        rw [HO2.out, HEq.out]
        exact ⟨_, rfl, (ho.below hb3 (Nat.le_refl _)).mono (by have := Hs.out; omega), by rw [Hs.out]; exact hB2.trans (hb3.mono hBz)⟩

set_option maxRecDepth 100000 in
set_option maxHeartbeats 1500000 in
theorem import_any (v : Value) (xs : List Int) (k0 k1 : Int) (w : World) (hT : Tab w) (hv : Has w v xs) (hB : IsB xs) (hl : xs.length ≤ 1099511627776) (hs : rdOk xs = true → ∀ p ∈ (rdE xs).1, p.1.size ≤ 131072 ∧ p.2.size ≤ 131072) :
    Calls Tryz.prog 23 #[v, .agg #[.int .u64 k0, .int .u64 k1]] w fun e w' =>
      (rdOk xs = false ∧ e = .returned (.tuple #[.pointer none, .int .i64 8]) ∧ Below w.heap.size w w') ∨
      (rdOk xs = true ∧ ∃ b, e = .returned (.tuple #[.pointer (some ⟨b, 0, none⟩), .int .i64 0]) ∧ One7 w w' b (rdE xs).1.length (putL (SM.empty k0 k1 (.string ⟨#[]⟩) (needI ((rdE xs).1.length : Int)).toNat) (rdE xs).1)) := by
  have hw0 := hT.1
  have hel := rdE_len xs
  have hbox := heap_alloc_new w (.cells #[.int .u64 k0, .int .u64 k1] 24)
  have hBA : Below w.heap.size w (w.alloc (.cells #[.int .u64 k0, .int .u64 k1] 24)) := (Below.refl _ _).alloc (Nat.le_refl _) _
  have hz0 : (w.alloc (.cells #[.int .u64 k0, .int .u64 k1] 24)).heap.size = w.heap.size + 1 := by simp
  have hrd := read_any v xs _ (hv.below hBA (Nat.le_refl _)) hB hl
  obtain ⟨pb, cb, hvb, -, -, -⟩ := id hv
  generalize hnb : xs.length = nb at hvb
  subst hvb
  clear hnb hv
  generalize (rdE xs).1 = l at *
  obtain ⟨hne, hgd⟩ := need7 l.length hel
  go_enter Tryz.func23, Tryz.ntmps23
  go_wp2_with fail
  generalize w.alloc (.cells #[.int .u64 k0, .int .u64 k1] 24) = W0 at *
  refine hrd.mono ?_
  rintro e w1 ⟨pv, rfl, ho1, hb1⟩
  have hb1z := hb1.size
  have hB1 : Below w.heap.size w w1 := hBA.trans (hb1.mono (by omega))
  cases hok : rdOk xs with
  | false =>
    clear hrd
    go_wp2
    go_ret2
    exact .inl ⟨hok, rfl, hB1⟩
  | true =>
    have Hs : Hid (∀ p ∈ l, p.1.size ≤ 131072 ∧ p.2.size ≤ 131072) := hs hok
    obtain ⟨pp, cp, rfl, -, -, -⟩ := id ho1.has
    have hbx := (hb1.block w.heap.size (by omega)).trans hbox
    have c0 : w1.cell? ⟨w.heap.size, 0, none⟩ = some (.int .u64 k0) := by unfold World.cell?; dsimp only; rw [hbx]; rfl
    have c1 : w1.cell? ⟨w.heap.size, 1, none⟩ = some (.int .u64 k1) := by unfold World.cell?; dsimp only; rw [hbx]; rfl
    have hnew := new_any_s k0 k1 (l.length : Int) w1 (by omega) (by omega) hne
    clear hrd hs hbox hbx
    have Hok : Hid (rdOk xs = true) := hok
    clear hok
    generalize hG : (needI (l.length : Int)).toNat = g at *
    have HG : Hid ((needI (l.length : Int)).toNat = g) := hG
    clear hG
    generalize hN : l.length = N at *
    have HN : Hid (l.length = N) := hN
    clear hN
    have HX : Hid (RowP w1 (.slice pp N cp) l) := RowP.of_owns ho1
    clear ho1
    go_wp2_with fail
    refine hnew.mono ?_
    rintro e w2 ⟨b, bw, bs, rfl, hl2, g1, g2, g3, hb2⟩
    have h2 := one7_new hB1 hl2 hgd g1 g2 g3 hb2
    have hX2 := HX.out.below hb2
    clear hnew hl2 g1 g2 g3 c0 c1 HX
    generalize hM : SM.empty k0 k1 (.string ⟨#[]⟩) g = M0 at *
    have HM : Hid (SM.empty k0 k1 (.string ⟨#[]⟩) g = M0) := hM
    clear hM
    go_wp2
    go_loopw [24] (fun i wr => ∃ j : Nat, j ≤ N ∧ i = .int .i64 (j : Nat) ∧ One7 w wr b j (putL M0 (l.take j)) ∧ RowP wr (.slice pp N cp) l) (fun i _ => N - (intOf i).toNat)
    case atStart => exact ⟨0, Nat.zero_le _, rfl, by rw [List.take_zero]; exact h2, hX2⟩
    case round =>
      clear h2 hX2
      obtain ⟨j, hj, rfl, hD, hX⟩ := hrel
      by_cases hlt : j < N
      · obtain ⟨bb, oo, rfl, hbb, hcc, -, c1, c2⟩ := hX.has.at (j := j) hlt
        have hjx : j < l.length := by rw [HN.out]; exact hlt
        have Ht : Hid (l.take j ++ [l.getD j default] = l.take (j + 1)) := ptake_snoc hjx
        have hsz := Hs.out _ (pgetD_mem hjx)
        clear hjx
        generalize l.getD j default = x at *
        have hba : Below wr.heap.size wr (wr.alloc (.cells #[.string x.1, .string x.2] 35)) := (Below.refl _ _).alloc (Nat.le_refl _) _
        have hput := (hD.below hba).put hT (by omega) x hsz
        have hX' := hX.below hba
        go_wp2_with fail
        generalize wr.alloc (.cells #[.string x.1, .string x.2] 35) = wa at *
        refine hput.mono ?_
        rintro e w3 ⟨⟨y1, y2, rfl⟩, hD3, hk3⟩
        have hX3 := hX'.kinds hk3 (by decide)
        clear hput hD hX hX' hba c1 c2
        go_wp2
        go_roundw
        case rel => exact ⟨j + 1, by omega, by go_num, by rw [← Ht.out, putL_snoc]; exact hD3, hX3⟩
        case measure => simp only [intOf]; omega
      · obtain rfl : j = N := by omega
        rw [show l.take j = l by rw [← HN.out, List.take_length]] at hD
        clear hX
        go_wp2
        go_ret2
        refine .inr ⟨Hok.out, b, rfl, ?_⟩
        rw [HN.out]
        have hg9 := HG.out
        rw [hg9, HM.out]
        exact hD
end Go.Proofs.YthlghokgknkpaaaGreatDoor
