/-
  The walk of corbellaw05.SwissMaps.
-/
import Derived.Test.YtkjnifipepiahaaDoorSwDiTo
import Derived.Test.YtkjnifipepiahaaDoorSwMTo
import Derived.Deep.CutRange
import Derived.Deep.RegionLaw
namespace Go.Proofs.YtkjnifipepiahaaDoor
open Go.RowKit Go.Shelf

/-- A region whose every order ends in one way, but for two numbers. -/
def EndIn (R : Nat → Nat → World → Prop) (A : Nat → Nat → Act) : Exit → Act → World → Prop
  | .normal, a, w => ∃ x y, a = A x y ∧ R x y w
  | _, _, _ => False
theorem EndIn.mk {R : Nat → Nat → World → Prop} {A : Nat → Nat → Act} {w : World} (x y : Nat) (h : R x y w) : EndIn R A .normal (A x y) w := ⟨x, y, rfl, h⟩
theorem some_end {P : Program} {id : Nat} {ops : Array Oper} {b : Bool} {Q : Exit → Act → World → Prop} {a : Act} {w : World} (R : Nat → Nat → World → Prop) {A : Nat → Nat → Act}
    (h : (Code.region id ops b).wp P (EndIn R A) a w) (k : ∀ x y W, R x y W → Q .normal (A x y) W) : (Code.region id ops b).wp P Q a w :=
  Code.wp_mono (fun e a w h => by cases e <;> first | (obtain ⟨x, y, rfl, hr⟩ := h; exact k x y w hr) | exact h.elim) h
theorem two_keys (w : World) (k0 k1 l0 l1 : Int) : ((w.alloc (.cells #[.int .u64 k0, .int .u64 k1] 24)).alloc (.cells #[.int .u64 l0, .int .u64 l1] 24)).cell? ⟨w.heap.size, 0, none⟩ = some (.int .u64 k0) ∧ ((w.alloc (.cells #[.int .u64 k0, .int .u64 k1] 24)).alloc (.cells #[.int .u64 l0, .int .u64 l1] 24)).cell? ⟨w.heap.size, 1, none⟩ = some (.int .u64 k1) ∧
    ((w.alloc (.cells #[.int .u64 k0, .int .u64 k1] 24)).alloc (.cells #[.int .u64 l0, .int .u64 l1] 24)).cell? ⟨w.heap.size + 1, 0, none⟩ = some (.int .u64 l0) ∧ ((w.alloc (.cells #[.int .u64 k0, .int .u64 k1] 24)).alloc (.cells #[.int .u64 l0, .int .u64 l1] 24)).cell? ⟨w.heap.size + 1, 1, none⟩ = some (.int .u64 l1) ∧ ((w.alloc (.cells #[.int .u64 k0, .int .u64 k1] 24)).alloc (.cells #[.int .u64 l0, .int .u64 l1] 24)).heap.size = w.heap.size + 2 ∧ Below w.heap.size w ((w.alloc (.cells #[.int .u64 k0, .int .u64 k1] 24)).alloc (.cells #[.int .u64 l0, .int .u64 l1] 24)) := by
  have hh := heap_alloc_new (w.alloc (.cells #[.int .u64 k0, .int .u64 k1] 24)) (.cells #[.int .u64 l0, .int .u64 l1] 24)
  rw [World.size_alloc] at hh
  have hg : ((w.alloc (.cells #[.int .u64 k0, .int .u64 k1] 24)).alloc (.cells #[.int .u64 l0, .int .u64 l1] 24)).heap[w.heap.size]? = some (.cells #[.int .u64 k0, .int .u64 k1] 24) := by
    rw [Below.heap_alloc _ _ _ (by simp)]
    exact heap_alloc_new w _
  refine ⟨?_, ?_, ?_, ?_, by simp, ((Below.refl _ _).alloc (Nat.le_refl _) _).alloc (by simp) _⟩
  all_goals
    unfold World.cell?
    dsimp only
  · rw [hg]; rfl
  · rw [hg]; rfl
  · rw [hh]; rfl
  · rw [hh]; rfl
theorem hold_new {w W0 u1 u : World} {c1 cw1 cs1 b bw bs g g' : Nat} {k0 k1 l0 l1 : Int} (hB0 : Below w.heap.size w W0)
    (hl1 : Lies 79 76 u1 c1 cw1 cs1 (SM.empty k0 k1 (.string ⟨#[]⟩) g)) (hz1 : isGood (g : Int) = true) (f1 : W0.heap.size ≤ c1) (f2 : W0.heap.size ≤ cw1) (f3 : W0.heap.size ≤ cs1) (hb1 : Below W0.heap.size W0 u1)
    (hl : Lies 79 76 u b bw bs (SM.empty l0 l1 (.string ⟨#[]⟩) g')) (hz : isGood (g' : Int) = true) (g1 : u1.heap.size ≤ b) (g2 : u1.heap.size ≤ bw) (g3 : u1.heap.size ≤ bs) (hb : Below u1.heap.size u1 u) :
    Hold w u c1 b (.slice none 0 0) (.slice none 0 0) [] [] [] [] := by
  obtain ⟨i1, n1⟩ := inv_empty k0 k1 (.string ⟨#[]⟩) g hz1 (isV_string _)
  obtain ⟨i2, n2⟩ := inv_empty l0 l1 (.string ⟨#[]⟩) g' hz (isV_string _)
  have hlt := hl1.lt
  have e1 := hB0.size
  have e2 := hb1.size
  refine ⟨⟨cw1, cs1, bw, bs, _, _, hl1.below hb (Nat.le_refl _), hl, i1, i2, tells_none _ rfl n1, tells_none _ rfl n2, ?_⟩, World.ownsRow_nil _ _ _ _, World.ownsRow_nil _ _ _ _, .inl rfl, (hB0.trans (hb1.mono e1)).trans (hb.mono (by omega))⟩
  unfold Six
  omega
/-- A search for a text: the last place that has it, or -1. -/
def Seek (ks : List ByteArray) (key : ByteArray) (i : Nat) (x : Int) : Prop := (x = -1 ∧ ∀ q, q < i → ks.getD q ByteArray.empty ≠ key) ∨ ∃ q : Nat, q < i ∧ x = q ∧ ks.getD q ByteArray.empty = key
theorem seek_next {ks : List ByteArray} {key : ByteArray} {i : Nat} {x : Int} (h : Seek ks key i x) (hn : ¬ ks.getD i ByteArray.empty = key) : Seek ks key (i + 1) x := by
  rcases h with ⟨h1, h2⟩ | ⟨q, h1, h2, h3⟩
  · refine .inl ⟨h1, fun q hq => ?_⟩
    by_cases e : q = i
    · subst e; exact hn
    · exact h2 q (by omega)
  · exact .inr ⟨q, by omega, h2, h3⟩
theorem act_cell {w : World} {k : Nat} {kd : Int} {ky vl : ByteArray} (hh : w.heap[k]? = some (.cells #[.int .i64 kd, .string ky, .string vl] 33 (0, 0))) : w.cell? ⟨k, 0, none⟩ = some (.int .i64 kd) ∧ w.cell? ⟨k, 1, none⟩ = some (.string ky) ∧ w.cell? ⟨k, 2, none⟩ = some (.string vl) := by
  refine ⟨?_, ?_, ?_⟩
  all_goals
    unfold World.cell?
    dsimp only
    rw [hh]
    rfl
theorem seek_none {ps : List (ByteArray × ByteArray)} {key : ByteArray} (h : ∀ q, q < ps.length → (ps.map Prod.fst).getD q ByteArray.empty ≠ key) : key ∉ ps.map Prod.fst := by
  intro hm
  obtain ⟨q, hq⟩ := List.getElem?_of_mem hm
  have hl := (List.getElem?_eq_some_iff.1 hq).1
  rw [List.length_map] at hl
  refine h q hl ?_
  rw [List.getD_eq_getElem?_getD, hq]
  rfl
theorem seek_some {ps : List (ByteArray × ByteArray)} {key : ByteArray} {q : Nat} (hq : q < ps.length) (h : (ps.map Prod.fst).getD q ByteArray.empty = key) : ∃ old, ps[q]? = some (key, old) := by
  rw [List.getD_eq_getElem?_getD, List.getElem?_map, List.getElem?_eq_getElem hq] at h
  refine ⟨ps[q].2, ?_⟩
  rw [List.getElem?_eq_getElem hq, ← h]
  rfl
theorem pair_at {ps : List (ByteArray × ByteArray)} {i : Nat} (hi : i < ps.length) : ∃ k v, (k, v) ∈ ps ∧ (ps.map Prod.fst).getD i ByteArray.empty = k ∧ (ps.map Prod.snd).getD i ByteArray.empty = v := by
  refine ⟨ps[i].1, ps[i].2, List.getElem_mem hi, ?_, ?_⟩
  · rw [List.getD_eq_getElem?_getD, List.getElem?_map, List.getElem?_eq_getElem hi]; rfl
  · rw [List.getD_eq_getElem?_getD, List.getElem?_map, List.getElem?_eq_getElem hi]; rfl
theorem OwnsT.free {w : World} {B g n c : Nat} {xs : List ByteArray} (h : OwnsT w B (.slice (some ⟨g, 0, none⟩) n c) xs) (i : Nat) : w.frozen? ⟨g, i, none⟩ = false := by
  rcases h.2 with ⟨e, _⟩ | ⟨g', cap, cur, e, _, hg, _⟩
  · cases e
  · simp only [Value.slice.injEq, Option.some.injEq, Addr.mk.injEq] at e
    obtain ⟨⟨rfl, _, _⟩, _, _⟩ := e
    simp [World.frozen?, hg]
theorem new_two (k0 k1 hint : Int) (w : World) (h : hint = 0 ∨ hint = 100) :
    Calls Tryd.prog 9 #[.agg #[.int .u64 k0, .int .u64 k1], .int .i64 hint] w fun e w' => ∃ b bw bs g, e = .returned (.pointer (some ⟨b, 0, none⟩)) ∧
      Lies 79 76 w' b bw bs (SM.empty k0 k1 (.string ⟨#[]⟩) g) ∧ isGood (g : Int) = true ∧ w.heap.size ≤ b ∧ w.heap.size ≤ bw ∧ w.heap.size ≤ bs ∧ Below w.heap.size w w' := by
  have hne : needI hint ≠ 0 := by rcases h with rfl | rfl <;> decide
  have hgd : isGood (((needI hint).toNat : Nat) : Int) = true := by rcases h with rfl | rfl <;> decide
  refine (new_any_s k0 k1 hint w (by omega) (by omega) hne).mono ?_
  rintro e w' ⟨b, bw, bs, h1, h2, h3, h4, h5, h6⟩
  exact ⟨b, bw, bs, _, h1, h2, hgd, h3, h4, h5, h6⟩

set_option maxRecDepth 10000 in
set_option maxHeartbeats 8000000 in
theorem swissMaps_any (k0 k1 l0 l1 : Int) (p : Option Addr) (n c : Nat) (xs : List Act') (hlen : xs.length = n) (w : World) (hT : Tab w) (_hk0 : 0 ≤ k0 ∧ k0 ≤ 18446744073709551615) (_hk1 : 0 ≤ k1 ∧ k1 ≤ 18446744073709551615) (_hl0 : 0 ≤ l0 ∧ l0 ≤ 18446744073709551615) (_hl1 : 0 ≤ l1 ∧ l1 ≤ 18446744073709551615) (hX : HasA w (.slice p n c) xs) (hn : (n : Int) ≤ 9223372036854775807) :
    Calls Tryd.prog 4 #[.agg #[.int .u64 k0, .int .u64 k1], .agg #[.int .u64 l0, .int .u64 l1], .slice p n c] w fun e w' => e = .returned (.bool true) ∧ Below w.heap.size w w' := by
  have hw0 := hT.1
  go_enter Tryd.func4, Tryd.ntmps4
  go_wp2_with fail
  apply some_end (fun b1 b2 Y => Hold w Y b1 b2 (.slice none 0 0) (.slice none 0 0) [] [] [] [])
  · obtain ⟨a0, a1, e0, e1, hz0, hB0⟩ := two_keys w k0 k1 l0 l1
    generalize ((w.alloc (.cells #[.int .u64 k0, .int .u64 k1] 24)).alloc (.cells #[.int .u64 l0, .int .u64 l1] 24)) = W0 at *
    have hlt1 : w.heap.size + 1 < W0.heap.size := by omega
    go_region_with (go_at_call 9; refine (new_two _ _ _ _ (by first | exact .inl rfl | exact .inr rfl)).mono ?_; rintro e u ⟨b, bw, bs, z, rfl, hl, hz, g1, g2, g3, hb⟩; try (have d0 := (hb.cell (p := ⟨w.heap.size + 1, 0, none⟩) hlt1).trans e0; have d1 := (hb.cell (p := ⟨w.heap.size + 1, 1, none⟩) hlt1).trans e1))
    all_goals
      rename_i u1 c1 cw1 cs1 z1 hl1 hz1 f1 f2 f3 hb1
      exact EndIn.mk c1 b (hold_new (W0 := W0.drew) ⟨hB0.os, hB0.tape, hB0.output, hB0.size, hB0.block⟩ hl1 hz1 f1 f2 f3 hb1 hl hz g1 g2 g3 hb)
  · intro b1 b2 W hold
    have hlives := fun (W : World) (hW : Below w.heap.size w W) => lives_any W (hT.below hW hw0)
    go_wp2_with fail
    refine (few_any p n c xs hlen W (hX.below hold.bel (Nat.le_refl _)) hn).mono ?_
    rintro e w2 ⟨r1, rfl, hr1, hb2⟩
    replace hold := hold.below hb2
    clear hb2
    cases r1 with
    | false =>
      go_wp2_with fail
      refine (hlives w2 hold.bel).mono ?_
      rintro e w3 ⟨rfl, hb3⟩
      go_wp2
      go_ret
      exact ⟨rfl, hold.bel.trans (hb3.mono hold.bel.size)⟩
    | true =>
      have hf1 := few_len (hr1 rfl)
      rw [hlen] at hf1
      clear hr1 hlen
      go_wp2
      go_loopw [52, 9, 10] (fun t vk vv wr => ∃ (j : Nat) (ps : List (ByteArray × ByteArray)), j ≤ n ∧ t = .int .i64 (j : Nat) ∧ ps.length ≤ j ∧ Hold w wr b1 b2 vk vv ps ps (ps.map Prod.fst) (ps.map Prod.snd)) (fun t _ _ _ => n - (intOf t).toNat)
      case atStart => exact ⟨0, [], by omega, rfl, Nat.le_refl _, hold⟩
      case round =>
        obtain ⟨j, ps, hj, rfl, hpj, h⟩ := hrel
        clear hold
        by_cases hlt : j < n
        · obtain ⟨bb, oo, rfl, hbb, hcc, c1, c2', c3, z1, z2⟩ := act_at hX h.bel hlt
          generalize xs.getD j default = act at *
          obtain ⟨kd, ky, vl⟩ := act
          dsimp only at c1 c2' c3 z1 z2
          have hza : (wr.alloc (.cells #[.int .i64 kd, .string ky, .string vl] 33)).heap.size = wr.heap.size + 1 := by simp
          have hA := heap_alloc_new wr (.cells #[.int .i64 kd, .string ky, .string vl] 33)
          obtain ⟨a0, a1, a2⟩ := act_cell hA
          have h' := h.below (((Below.refl _ wr).alloc (Nat.le_refl _) (.cells #[.int .i64 kd, .string ky, .string vl] 33)))
          obtain ⟨pk, ck, hvk, hkc, hkn, hkcell⟩ := id h'.2.1.has
          obtain ⟨pv, cv, hvv, hvc, hvn, hvcell⟩ := id h'.2.2.1.has
          rw [List.length_map] at hvk hvv hkc hvc
          subst hvk
          subst hvv
          clear hkcell hvcell h
          go_wp2
          generalize wr.alloc (.cells #[.int .i64 kd, .string ky, .string vl] 33) = Wa at *
          generalize wr.heap.size = ab at *
          go_loopw [58, 13] (fun t a wr => ∃ (i : Nat) (x : Int), i ≤ ps.length ∧ t = .int .i64 (i : Nat) ∧ a = .int .i64 x ∧ Seek (ps.map Prod.fst) ky i x ∧ wr = Wa) (fun t _ _ => ps.length - (intOf t).toNat)
          case atStart => exact ⟨0, -1, by omega, rfl, rfl, .inl ⟨rfl, fun q hq => by omega⟩, rfl⟩
          case round =>
            obtain ⟨i, x, hi, rfl, rfl, hseek, rfl⟩ := hrel
            by_cases hil : i < ps.length
            · obtain ⟨gk, ok, rfl, _, hjl, ck'⟩ := text_at h'.2.1.has (Below.refl _ _) (Nat.le_refl _) hil
              have hne : Hid ((ps.map Prod.fst).getD i ByteArray.empty = (ps.map Prod.fst).getD i ByteArray.empty) := rfl
              by_cases hky : (ps.map Prod.fst).getD i ByteArray.empty = ky
              · rw [hky] at ck'
                have hs' : Seek (ps.map Prod.fst) ky (i + 1) i := .inr ⟨i, by omega, rfl, hky⟩
                clear hky hne hseek
                go_wp2
                go_roundw
                case rel => exact ⟨i + 1, i, by omega, by simp, rfl, hs', trivial⟩
                case measure => simp only [intOf]; omega
              · have hs' : Seek (ps.map Prod.fst) ky (i + 1) x := seek_next hseek hky
                have hdf := str_ne hky
                clear hky hne hseek
                generalize (ps.map Prod.fst).getD i ByteArray.empty = kk at *
                go_wp2
                go_roundw
                case rel => exact ⟨i + 1, x, by omega, by simp, rfl, hs', trivial⟩
                case measure => simp only [intOf]; omega
            · obtain rfl : i = ps.length := by omega
              clear hil hi
              rcases hseek with ⟨rfl, hno⟩ | ⟨q, hq, rfl, hqk⟩
              · have hno' := seek_none hno
                clear hno
                by_cases hk : kd = 1
                · subst hk
                  go_wp2_with fail
                  refine (h'.keep hT hno' (by omega)).mono ?_
                  rintro e w5 ⟨rfl, h5, q5⟩
                  have hA5 := q5 _ _ _ hA
                  obtain ⟨_, a1', _⟩ := act_cell hA5
                  clear h' q5
                  go_wp2_with fail
                  refine (h5.swap.keep hT hno' (by omega)).mono ?_
                  rintro e w6 ⟨rfl, h6, q6⟩
                  replace h6 := h6.swap
                  clear h5 q6
                  go_wp2
                  go_roundw
                  case rel => exact ⟨j + 1, ps, by omega, by simp, by omega, h6⟩
                  case measure => simp only [intOf]; omega
                · go_wp2_with fail
                  refine (h'.more hT hno' (v := vl) (by omega) (by omega)).mono ?_
                  rintro e w5 ⟨rfl, h5, q5⟩
                  have hA5 := q5 _ _ _ hA
                  obtain ⟨_, a1', a2'⟩ := act_cell hA5
                  clear h' q5
                  go_wp2_with fail
                  refine (h5.swap.more hT hno' (v := vl) (by omega) (by omega)).mono ?_
                  rintro e w6 ⟨rfl, h6, q6⟩
                  replace h6 := h6.swap
                  have hA6 := q6 _ _ _ hA5
                  obtain ⟨_, a1'', a2''⟩ := act_cell hA6
                  clear h5 q6
                  go_wp2_with fail
                  have hlk : (ps.map Prod.fst).length ≤ 1099511627776 := by rw [List.length_map]; omega
                  have hlv : (ps.map Prod.snd).length ≤ 1099511627776 := by rw [List.length_map]; omega
                  have hz6 : ab < w6.heap.size := (Array.getElem?_eq_some_iff.1 hA6).1
                  go_region_law (first
                    | (refine step_app _ rfl (.tmp 153) (.tmp 156) rfl h6 (by first | exact ext_alloc (ext_drew _) _ | exact ext_on (ext_alloc (Below.refl _ _) _) | exact ext_alloc (ext_alloc (ext_drew _) _) _ | exact ext_alloc (ext_on (ext_alloc (Below.refl _ _) _)) _ | exact ext_on (ext_alloc (ext_alloc (Below.refl _ _) _) _)) hA6 _ ky rfl rfl (HasT.one (by first | exact heap_alloc_new _ _ | exact new_first _ _ _ | exact new_second _ _ _)) hlk ?_; intro v7 w7 h7 hA7 k7; obtain ⟨_, _, a27⟩ := act_cell hA7)
                    | (refine step_app _ rfl (.tmp 158) (.tmp 161) rfl h7.turn (by first | exact Below.refl _ _ | exact ext_alloc (Below.refl _ _) _) hA7 _ vl rfl rfl (HasT.one (by first | exact heap_alloc_new _ _ | exact (k7 _ (by first | (simp; done) | (simp; omega)) (by first | (simp; done) | (simp; omega))).trans (by first | exact heap_alloc_new _ _ | exact new_first _ _ _ | exact new_second _ _ _))) hlv ?_; intro v8 w8 h8 hA8 k8))
                  all_goals
                    replace h8 := h8.turn
                    rw [show ps.map Prod.fst ++ [ky] = (ps ++ [(ky, vl)]).map Prod.fst by simp, show ps.map Prod.snd ++ [vl] = (ps ++ [(ky, vl)]).map Prod.snd by simp] at h8
                    clear h6 h7 hA7 k7 a27 hA8 k8 hA hA5 hA6
                    go_wp2
                    go_roundw
                    case rel => exact ⟨j + 1, ps ++ [(ky, vl)], by omega, by simp, by simp; omega, h8⟩
                    case measure => simp only [intOf]; omega
              · obtain ⟨old, hold⟩ := seek_some hq hqk
                clear hqk
                have hq0 : (0 : Int) ≤ (q : Int) := by omega
                by_cases hk : kd = 1
                · subst hk
                  go_wp2_with fail
                  refine (h'.gone hT hold (by omega)).mono ?_
                  rintro e w5 ⟨rfl, h5, q5⟩
                  have hA5 := q5 _ _ _ hA
                  obtain ⟨_, a1', _⟩ := act_cell hA5
                  clear h' q5
                  go_wp2_with fail
                  refine (h5.swap.gone hT hold (by omega)).mono ?_
                  rintro e w6 ⟨rfl, h6, q6⟩
                  replace h6 := h6.swap
                  clear h5 q6
                  go_wp2_with fail
                  obtain ⟨gk, ck', e, _⟩ := row_some h6.2.1 (by rw [List.length_map]; omega)
                  rw [List.length_map] at e
                  cases e
                  have hcut1 := h6.2.1.has.take (k := q) (by omega)
                  obtain ⟨pk2, hif, hcut2⟩ := h6.2.1.has.rest (q := q) (by omega)
                  have hqc : q ≤ ck := by omega
                  have hq1 : q + 1 ≤ ps.length := by omega
                  have hq2 : (q : Int) + 1 ≤ (ps.length : Int) := by omega
                  have hq3 : ((q : Int) + 1).toNat = q + 1 := by omega
                  have hq4 : (0 : Int) ≤ (q : Int) + 1 := by omega
                  have hwq : IntKind.i64.wrap ((q : Int) + 1) = (q : Int) + 1 := by rw [IntKind.wrap_i64]; omega
                  go_region_law (first
                    | (refine step_fresh _ rfl (.tmp 90) (.tmp 93) rfl (by first | exact ext_alloc (ext_drew _) _ | exact ext_on (ext_alloc (Below.refl _ _) _) | exact ext_alloc (ext_alloc (ext_drew _) _) _ | exact ext_alloc (ext_on (ext_alloc (Below.refl _ _) _)) _ | exact ext_on (ext_alloc (ext_alloc (Below.refl _ _) _) _)) _ _ [] _ rfl rfl hcut1 (by first | exact World.ownsRow_made _ #[] 0 (Nat.le_refl _) (by decide) rfl | exact owns_none _) (by simp) (by simp; omega) ?_; intro v7 w7 ho7 hb7)
                    | (refine step_fresh _ rfl (.tmp 94) (.tmp 98) rfl hb7 _ _ _ _ rfl rfl hcut2 ho7 (by simp; omega) (by simp; omega) ?_; intro v8 w8 ho8 hb8))
                  have h7 := h6.new hb8 ho8
                  clear ho7 hb7 h6 hcut1 hcut2 hif hqc ho8 hb8
                  go_wp2_with fail
                  obtain ⟨gv, cv', e, _⟩ := row_some h7.2.2.1 (by rw [List.length_map]; omega)
                  rw [List.length_map] at e
                  cases e
                  have hcut1 := h7.2.2.1.has.take (k := q) (by omega)
                  obtain ⟨pv2, hif, hcut2⟩ := h7.2.2.1.has.rest (q := q) (by omega)
                  have hqc : q ≤ cv := by omega
                  go_region_law (first
                    | (refine step_fresh _ rfl (.tmp 100) (.tmp 103) rfl (by first | exact ext_alloc (ext_drew _) _ | exact ext_on (ext_alloc (Below.refl _ _) _)) _ _ [] _ rfl rfl hcut1 (by first | exact World.ownsRow_made _ #[] 0 (Nat.le_refl _) (by decide) rfl | exact owns_none _) (by simp) (by simp; omega) ?_; intro v9 w9 ho9 hb9)
                    | (refine step_fresh _ rfl (.tmp 104) (.tmp 108) rfl hb9 _ _ _ _ rfl rfl hcut2 ho9 (by simp; omega) (by simp; omega) ?_; intro v10 w10 ho10 hb10))
                  have h9 := (h7.turn.new hb10 ho10).turn
                  rw [show [] ++ (ps.map Prod.fst).take q ++ (ps.map Prod.fst).drop (q + 1) = (ps.take q ++ ps.drop (q + 1)).map Prod.fst by simp [List.map_take, List.map_drop], show [] ++ (ps.map Prod.snd).take q ++ (ps.map Prod.snd).drop (q + 1) = (ps.take q ++ ps.drop (q + 1)).map Prod.snd by simp [List.map_take, List.map_drop]] at h9
                  clear ho9 hb9 h7 hcut1 hcut2 hif hqc ho10 hb10
                  go_wp2
                  go_roundw
                  case rel => exact ⟨j + 1, ps.take q ++ ps.drop (q + 1), by omega, by simp, by simp; omega, h9⟩
                  case measure => simp only [intOf]; omega
                · go_wp2_with fail
                  refine (h'.over hT hold (v := vl) (by omega) (by omega)).mono ?_
                  rintro e w5 ⟨rfl, h5, q5⟩
                  have hA5 := q5 _ _ _ hA
                  obtain ⟨_, a1', a2'⟩ := act_cell hA5
                  clear h' q5
                  go_wp2_with fail
                  refine (h5.swap.over hT hold (v := vl) (by omega) (by omega)).mono ?_
                  rintro e w6 ⟨rfl, h6, q6⟩
                  replace h6 := h6.swap
                  have hA6 := q6 _ _ _ hA5
                  obtain ⟨_, a1'', a2''⟩ := act_cell hA6
                  clear h5 q6
                  obtain ⟨gv, cv', e, _⟩ := row_some h6.2.2.1 (by rw [List.length_map]; omega)
                  rw [List.length_map] at e
                  cases e
                  obtain ⟨_, _, e, _, _, cold⟩ := text_at h6.2.2.1.has (Below.refl _ _) (Nat.le_refl _) hq
                  cases e
                  rw [Nat.zero_add] at cold
                  have hfr := h6.2.2.1.free q
                  have h7 := h6.turn.store q vl
                  replace h7 := h7.turn
                  rw [show ps.map Prod.fst = (ps.set q (ky, vl)).map Prod.fst from (fst_set hold).symm, show (ps.map Prod.snd).set q vl = (ps.set q (ky, vl)).map Prod.snd by rw [List.map_set]] at h7
                  clear h6
                  go_wp2
                  go_roundw
                  case rel => exact ⟨j + 1, ps.set q (ky, vl), by omega, by simp, by rw [List.length_set]; omega, h7⟩
                  case measure => simp only [intOf]; omega
        · obtain rfl : n = j := by omega
          clear hlt hj
          obtain ⟨pk, ck, hvk, hkc, hkn, hkcell⟩ := id h.2.1.has
          obtain ⟨pv, cv, hvv, hvc, hvn, hvcell⟩ := id h.2.2.1.has
          rw [List.length_map] at hvk hvv hkc hvc
          subst hvk
          subst hvv
          clear hkcell hvcell
          go_wp2_with fail
          refine h.len.mono ?_
          rintro e w5 ⟨rfl, rfl⟩
          go_wp2_with fail
          refine h.swap.len.mono ?_
          rintro e w6 ⟨rfl, rfl⟩
          go_wp2
          go_loopw [178] (fun t wr => ∃ i : Nat, i ≤ ps.length ∧ t = .int .i64 (i : Nat) ∧ Hold w wr b1 b2 (.slice pk ps.length ck) (.slice pv ps.length cv) ps ps (ps.map Prod.fst) (ps.map Prod.snd)) (fun t _ => ps.length - (intOf t).toNat)
          case atStart => exact ⟨0, by omega, rfl, h⟩
          case round =>
            obtain ⟨i, hi, rfl, h5⟩ := hrel
            clear h
            by_cases hil : i < ps.length
            · obtain ⟨gk, ok, rfl, _, hjl, ck'⟩ := text_at h5.2.1.has (Below.refl _ _) (Nat.le_refl _) hil
              obtain ⟨key, val, hm, e1, e2⟩ := pair_at hil
              rw [e1] at ck'
              have hks := h5.size (fst_mem.2 ⟨val, hm⟩)
              go_wp2_with fail
              refine (h5.get hT hm hks).mono ?_
              rintro e w7 ⟨rfl, h7⟩
              clear h5
              go_wp2_with fail
              refine (h7.swap.get hT hm hks).mono ?_
              rintro e w8 ⟨rfl, h8⟩
              replace h8 := h8.swap
              obtain ⟨gv, ov, rfl, _, _, cv'⟩ := text_at h8.2.2.1.has (Below.refl _ _) (Nat.le_refl _) hil
              rw [e2] at cv'
              clear h7 e1 e2 hm
              go_wp2
              go_roundw
              case rel => exact ⟨i + 1, by omega, by simp, h8⟩
              case measure => simp only [intOf]; omega
            · go_wp2_with fail
              refine (hlives wr h5.bel).mono ?_
              rintro e w9 ⟨rfl, hb9⟩
              go_wp2
              go_ret
              exact ⟨rfl, h5.bel.trans (hb9.mono h5.bel.size)⟩
end Go.Proofs.YtkjnifipepiahaaDoor
