import Derived.Test.YtiobfdfmfgjpfaaDoorSwVTo
import Derived.ProofKit
import Derived.OpenShut
import Derived.Deep.SlicePairs
import Derived.SizedLaws
import Derived.Deep.QuietTactic
import Derived.BigQuiet
/-
  A slice of acts that came in; few of the statements' package.
-/
namespace Go.Proofs.YtiobfdfmfgjpfaaDoor
open Go.RowKit

/-- An act: its kind, its key, its value. -/
structure Act' where
  kind : Int
  key : ByteArray
  value : ByteArray
instance : Inhabited Act' := ⟨⟨0, ByteArray.empty, ByteArray.empty⟩⟩

/-- A slice of acts, as it lies in memory. -/
def HasA (w : World) (v : Value) (xs : List Act') : Prop :=
  ∃ p c, v = .slice p xs.length c ∧ xs.length ≤ c ∧ (p = none → c = 0) ∧
    (0 < xs.length → ∃ b o, p = some ⟨b, o, none⟩ ∧ b < w.heap.size ∧ ∀ i, i < xs.length →
      w.cell? ⟨b, o + i * 3, none⟩ = some (.int .i64 (xs.getD i default).kind) ∧ w.cell? ⟨b, o + i * 3 + 1, none⟩ = some (.string (xs.getD i default).key) ∧ w.cell? ⟨b, o + i * 3 + 2, none⟩ = some (.string (xs.getD i default).value) ∧
      (xs.getD i default).key.size ≤ 140737488351232 ∧ (xs.getD i default).value.size ≤ 140737488351232)
theorem HasA.below {w w' : World} {B : Nat} {v : Value} {xs : List Act'} (h : HasA w v xs) (hb : Below B w w') (hB : w.heap.size ≤ B) : HasA w' v xs := by
  obtain ⟨p, c, rfl, h1, h2, h3⟩ := h
  refine ⟨p, c, rfl, h1, h2, fun h0 => ?_⟩
  obtain ⟨b, o, rfl, hlt, hc⟩ := h3 h0
  refine ⟨b, o, rfl, Nat.lt_of_lt_of_le hlt hb.size, fun i hi => ?_⟩
  obtain ⟨h4, h5, h6, h7⟩ := hc i hi
  exact ⟨(hb.cell (p := ⟨b, o + i * 3, none⟩) (by exact Nat.lt_of_lt_of_le hlt hB)).trans h4, (hb.cell (p := ⟨b, o + i * 3 + 1, none⟩) (by exact Nat.lt_of_lt_of_le hlt hB)).trans h5, (hb.cell (p := ⟨b, o + i * 3 + 2, none⟩) (by exact Nat.lt_of_lt_of_le hlt hB)).trans h6, h7⟩

/-- What few reckons of a row of acts. -/
def costA (a : Act') : Nat := 1 + (a.key.size + a.value.size) / 50
def Few (xs : List Act') : Prop := (xs.map costA).sum ≤ 600

theorem few_len {xs : List Act'} (h : Few xs) : xs.length ≤ 600 := by
  have : ∀ l : List Act', l.length ≤ (l.map costA).sum := by
    intro l
    induction l with
    | nil => exact Nat.le_refl _
    | cons a l ih => rw [List.map_cons, List.sum_cons, List.length_cons]; unfold costA; unfold costA at ih; omega
  exact Nat.le_trans (this xs) h
theorem few_key {xs : List Act'} (h : Few xs) {a : Act'} (ha : a ∈ xs) : a.key.size + a.value.size ≤ 30000 := by
  have : ∀ l : List Act', a ∈ l → costA a ≤ (l.map costA).sum := by
    intro l
    induction l with
    | nil => exact fun h => by cases h
    | cons b l ih =>
      intro hm
      rw [List.map_cons, List.sum_cons]
      rcases List.mem_cons.1 hm with rfl | hm
      · omega
      · have := ih hm; omega
  have h1 := this xs ha
  unfold Few at h
  unfold costA at h1 h
  omega

theorem few_step (k ks vs : Nat) (hk : k ≤ 500) (h1 : ks ≤ 140737488351232) (h2 : vs ≤ 140737488351232) :
    wrap64 ((k : Int) + wrap64 (1 + wrap64 ((wrap64 ((ks : Int) + vs)).tdiv 50))) = ((k + (1 + (ks + vs) / 50) : Nat) : Int) := by
  rw [IntWalk.wrap64_in ((ks : Int) + vs) (by omega), Int.tdiv_eq_ediv_of_nonneg (by omega)]
  obtain ⟨q, hq⟩ : ∃ q : Nat, q = (ks + vs) / 50 := ⟨_, rfl⟩
  have e : ((ks : Int) + vs) / 50 = q := by omega
  have hq' : q ≤ 281474976710656 := by omega
  rw [e, ← hq, IntWalk.wrap64_in (q : Int) (by omega), IntWalk.wrap64_in (1 + (q : Int)) (by omega), IntWalk.wrap64_in _ (by omega)]
  omega

set_option maxRecDepth 10000 in
set_option maxHeartbeats 4000000 in
theorem few_any (p : Option Addr) (n c : Nat) (xs : List Act') (hlen : xs.length = n) (w : World) (hX : HasA w (.slice p n c) xs) (hn : (n : Int) ≤ 9223372036854775807) :
    Calls Tryd.prog 9 #[.slice p n c] w fun e w' => ∃ r : Bool, e = .returned (.bool r) ∧ (r = true → Few xs) ∧ Below w.heap.size w w' := by
  have hlen' : Hid (xs.length = n) := hlen
  clear hlen
  go_enter Tryd.func9, Tryd.ntmps9
  go_wp2
  go_loopw [8, 3] (fun t s wr => ∃ (j : Nat) (k : Nat), j ≤ n ∧ t = .int .i64 (j : Nat) ∧ s = .int .i64 (k : Nat) ∧ k ≤ 500 ∧ Hid (((xs.take j).map costA).sum = k) ∧ Below w.heap.size w wr) (fun t _ _ => n - (intOf t).toNat)
  case atStart => exact ⟨0, 0, by omega, rfl, rfl, by omega, rfl, Below.refl _ _⟩
  case round =>
    obtain ⟨j, k, hj, rfl, rfl, hk, hs, hb⟩ := hrel
    by_cases hlt : j < n
    · obtain ⟨p', c', hpv, hcc, _, hcell⟩ := hX.below (hb.mono (Nat.le_refl _)) (Nat.le_refl _)
      simp only [Value.slice.injEq] at hpv
      obtain ⟨rfl, hnn, rfl⟩ := hpv
      rw [← hnn] at hcc hcell
      clear hnn
      obtain ⟨bb, oo, rfl, hbb, hcell⟩ := hcell (by omega)
      obtain ⟨c1, c2, c3, z1, z2⟩ := hcell j (by omega)
      clear hcell
      have hmem : Hid (∀ a, a = xs.getD j default → xs.take j ++ [a] = xs.take (j + 1)) := fun a ha => by
        have hjx : j < xs.length := by rw [hlen'.out]; exact hlt
        rw [ha, List.take_succ_eq_append_getElem hjx]
        simp [List.getD_eq_getElem?_getD, List.getElem?_eq_getElem hjx]
      generalize hkey : xs.getD j default = act at *
      have hkk : Hid (xs.take j ++ [act] = xs.take (j + 1)) := hmem.out act rfl
      clear hmem hkey
      obtain ⟨kd, ky, vl⟩ := act
      dsimp only at c1 c2 c3 z1 z2
      have hsum : Hid (((xs.take (j + 1)).map costA).sum = k + costA ⟨kd, ky, vl⟩) := by
        show _ = _
        rw [← hkk.out, List.map_append, List.sum_append, hs.out]; simp
      have hcst : Hid (costA ⟨kd, ky, vl⟩ = 1 + (ky.size + vl.size) / 50) := rfl
      have hst := few_step k ky.size vl.size hk z1 z2
      clear hkk hs
      generalize costA ⟨kd, ky, vl⟩ = cst at *
      by_cases h6 : 500 < (k : Int) + (1 + ((ky.size : Int) + vl.size) / 50)
      · go_wp2
        go_ret
        exact ⟨false, rfl, (fun h => by cases h), hb.alloc (by have := hb.size; omega) _⟩
      · go_wp2
        go_roundw
        case rel =>
          refine ⟨j + 1, k + (1 + (ky.size + vl.size) / 50), by omega, by simp, by simp, by omega, ?_, hb.alloc (by have := hb.size; omega) _⟩
          show _ = _
          rw [hsum.out, hcst.out]
        case measure => simp only [intOf]; omega
    · have hjn : j = n := by omega
      subst hjn
      go_wp2
      go_ret
      refine ⟨true, rfl, fun _ => ?_, hb⟩
      unfold Few
      rw [← List.take_length (l := xs), hlen'.out, hs.out]
      exact Nat.le_trans hk (by decide)
end Go.Proofs.YtiobfdfmfgjpfaaDoor

/-
  From a row's own words to this proof's: a slice of acts that came in.
-/
namespace Go.Proofs.YtiobfdfmfgjpfaaDoor
open Go.ChangeShapes Go.WideShapes Go.ChangeAt Go.RowKit Go.Deep

theorem acts_cells {H : Type} {enc : TypeId × Value → H} {P : Program} {w : World} {base : Nat} {spare : Nat → Bool} {held : Bool} {t e : TypeId} {f0 f1 f2 : Field} {fuel : Nat} {a : Option Addr} {n c : Nat} {x : DataW H × List MemPlace}
    (ht : P.underlying t = some (.slice e)) (he : P.underlying e = some (.struct #[f0, f1, f2])) (ce : P.cellsOf e = 3) (o0 : f0.offset = 0) (o1 : f1.offset = 1) (o2 : f2.offset = 2)
    (c0 : P.cellsOf f0.type = 1) (c1 : P.cellsOf f1.type = 1) (c2 : P.cellsOf f2.type = 1) (u0 : P.underlying f0.type = some (.int .i64)) (u1 : P.underlying f1.type = some .string) (u2 : P.underlying f2.type = some .string)
    (h : DataW.trod enc P w base spare held fuel t (Value.cells (.slice a n c)).toList = some x) :
    (a = none ∧ n = 0 ∧ c = 0) ∨
    ∃ (a' : Addr) (D : Nat → DataW H) (A : Nat → Act') (sp : List (DataW H)), a = some a' ∧ n ≤ c ∧ c ≤ maxLen ∧ x.1 = .slice ((List.range n).map D) sp ∧
      ∀ i, i < n → D i = .agg [.lit (.int .i64 (A i).kind), .lit (.string (A i).key.data.toList), .lit (.string (A i).value.data.toList)] ∧
        w.cell? (a'.add (i * 3)) = some (.int .i64 (A i).kind) ∧ w.cell? (a'.add (i * 3 + 1)) = some (.string (A i).key) ∧ w.cell? (a'.add (i * 3 + 2)) = some (.string (A i).value) := by
  rcases open_slice ht h with ⟨hcs, _⟩ | ⟨a', len, cap, m, k, D, Pl, hcs, hb, hl, hm, hmm, rfl, hx⟩
  · simp [Value.cells] at hcs
    exact .inl ⟨hcs.1, hcs.2.1, hcs.2.2⟩
  · simp [Value.cells] at hcs
    obtain ⟨rfl, rfl, rfl⟩ := hcs
    have hlm : n ≤ m := by rw [hmm]; split <;> omega
    have each : ∀ i, i < n → ∃ A : Act', D i = .agg [.lit (.int .i64 A.kind), .lit (.string A.key.data.toList), .lit (.string A.value.data.toList)] ∧
        w.cell? (a'.add (i * 3)) = some (.int .i64 A.kind) ∧ w.cell? (a'.add (i * 3 + 1)) = some (.string A.key) ∧ w.cell? (a'.add (i * 3 + 2)) = some (.string A.value) := by
      intro i hi
      obtain ⟨cs', h1, h2⟩ := hx i (by omega)
      rw [ce] at h1
      obtain ⟨_, hlen, hcell⟩ := World.cells?_some h1
      obtain ⟨xs, k', hk, hxy, _, hxl, hf⟩ := DataW.trod_struct he h2
      match xs, hxl, cs', hlen with
      | [y0, y1, y2], _, [v0, v1, v2], _ =>
        have g0 := hf 0 f0 rfl
        have g1 := hf 1 f1 rfl
        have g2 := hf 2 f2 rfl
        simp [o0, o1, o2, c0, c1, c2] at g0 g1 g2
        obtain ⟨z, hz, rfl, _⟩ := DataW.trod_int u0 g0
        obtain ⟨s1, hs1, rfl, _⟩ := DataW.trod_string u1 g1
        obtain ⟨s2, hs2, rfl, _⟩ := DataW.trod_string u2 g2
        cases hz; cases hs1; cases hs2
        have e0 := hcell 0 (by omega)
        have e1 := hcell 1 (by omega)
        have e2 := hcell 2 (by omega)
        rw [add_add] at e0 e1 e2
        simp only [Prod.mk.injEq] at hxy
        exact ⟨⟨z, s1, s2⟩, by simpa using hxy.1, by simpa using e0, by simpa using e1, by simpa using e2⟩
    obtain ⟨A, hA⟩ := choose_lt each
    exact .inr ⟨a', D, A, _, rfl, hl, hm, rfl, hA⟩

theorem weights_all {H : Type} {P : Program} {e : TypeId} : ∀ {ds : List (DataW H)} {d : DataW H}, d ∈ ds → ∀ q ∈ d.weights P e, q ∈ DataW.weightsAll P e ds
  | d0 :: ds, d, hd, q, hq => by
    simp only [DataW.weightsAll, List.mem_append]
    rcases List.mem_cons.1 hd with rfl | hd
    · exact .inl hq
    · exact .inr (weights_all hd q hq)

theorem acts_in {H : Type} {enc : TypeId × Value → H} {P : Program} {w : World} {base : Nat} {spare : Nat → Bool} {held : Bool} {t e : TypeId} {f0 f1 f2 : Field} {fuel : Nat} {a : Option Addr} {n c : Nat} {x : DataW H × List MemPlace}
    (ht : P.underlying t = some (.slice e)) (he : P.underlying e = some (.struct #[f0, f1, f2])) (ce : P.cellsOf e = 3) (o0 : f0.offset = 0) (o1 : f1.offset = 1) (o2 : f2.offset = 2)
    (c0 : P.cellsOf f0.type = 1) (c1 : P.cellsOf f1.type = 1) (c2 : P.cellsOf f2.type = 1) (u0 : P.underlying f0.type = some (.int .i64)) (u1 : P.underlying f1.type = some .string) (u2 : P.underlying f2.type = some .string)
    (h : DataW.trod enc P w base spare held fuel t (Value.cells (.slice a n c)).toList = some x) (hw : ∀ q ∈ x.1.weights P t, q ≤ reachBytes) :
    ∃ zs : List Act', zs.length = n ∧ HasA w (.slice a n c) zs ∧ (n : Int) ≤ 9223372036854775807 := by
  rcases acts_cells ht he ce o0 o1 o2 c0 c1 c2 u0 u1 u2 h with ⟨rfl, rfl, rfl⟩ | ⟨a', D, A, sp, rfl, hl, hm, hx, hA⟩
  · exact ⟨[], rfl, ⟨none, 0, rfl, Nat.le_refl _, fun _ => rfl, fun h => absurd h (Nat.lt_irrefl 0)⟩, by omega⟩
  · have hlen : ((List.range n).map A).length = n := by simp
    have hget : ∀ i, i < n → ((List.range n).map A).getD i default = A i := fun i hi => by simp [List.getD_eq_getElem?_getD, hi]
    have hsz : ∀ i, i < n → (A i).key.size ≤ 140737488351232 ∧ (A i).value.size ≤ 140737488351232 := fun i hi => by
      have hin : ∀ q ∈ (D i).weights P e, q ≤ reachBytes := fun q hq => hw q (by
        rw [hx]
        simp only [DataW.weights, ht, List.mem_cons, List.mem_append]
        exact .inr (.inl (weights_all (List.mem_map.2 ⟨i, List.mem_range.2 hi, rfl⟩) q hq)))
      rw [(hA i hi).1] at hin
      simp [DataW.weights, he, DataW.weightsEach, reachBytes] at hin
      exact hin
    refine ⟨(List.range n).map A, hlen, ⟨some a', c, by rw [hlen], by rw [hlen]; exact hl, (fun h => by cases h), fun h0 => ?_⟩, by unfold maxLen at hm; omega⟩
    rw [hlen] at h0 ⊢
    obtain ⟨b, o, s⟩ := a'
    obtain rfl : s = none := by simpa [Addr.add] using World.cell?_spot (hA 0 h0).2.1
    refine ⟨b, o, rfl, World.block_lt_of_cell? w _ (hA 0 h0).2.1, fun i hi => ?_⟩
    obtain ⟨_, h1, h2, h3⟩ := hA i hi
    rw [hget i hi]
    rw [Go.WideShapes.add_plain] at h1 h2 h3
    exact ⟨h1, h2, h3, hsz i hi⟩
end Go.Proofs.YtiobfdfmfgjpfaaDoor

/-
  Contracts: corbelref01.Words, corbelref01.Texts.
-/
namespace Go.Proofs.YtiobfdfmfgjpfaaDoor
open Go.RowKit Go.Shelf

/-- A slice of words, as it lies in memory. -/
def HasW (w : World) (v : Value) (xs : List Nat) : Prop :=
  ∃ p c, v = .slice p xs.length c ∧ xs.length ≤ c ∧ (p = none → c = 0) ∧
    (0 < xs.length → ∃ b o, p = some ⟨b, o, none⟩ ∧ b < w.heap.size ∧ ∀ i, i < xs.length → w.cell? ⟨b, o + i, none⟩ = some (.int .u64 ((xs.getD i 0 : Nat) : Int)))
theorem HasW.below {w w' : World} {B : Nat} {v : Value} {xs : List Nat} (h : HasW w v xs) (hb : Below B w w') (hB : w.heap.size ≤ B) : HasW w' v xs := by
  obtain ⟨p, c, rfl, h1, h2, h3⟩ := h
  refine ⟨p, c, rfl, h1, h2, fun h0 => ?_⟩
  obtain ⟨b, o, rfl, hlt, hc⟩ := h3 h0
  exact ⟨b, o, rfl, Nat.lt_of_lt_of_le hlt hb.size, fun i hi => (hb.cell (p := ⟨b, o + i, none⟩) (by exact Nat.lt_of_lt_of_le hlt hB)).trans (hc i hi)⟩

set_option maxRecDepth 10000 in
set_option maxHeartbeats 2000000 in
theorem texts_any (u v : Value) (xs ys : List ByteArray) (w : World) (hx : HasT w u xs) (hy : HasT w v ys) (lx : xs.length ≤ 1099511627776) (ly : ys.length ≤ 1099511627776) :
    Calls Tryd.prog 23 #[u, v] w fun e w' => e = .returned (.bool (decide (xs = ys))) ∧ Below w.heap.size w w' := by
  obtain ⟨p, c, rfl, hc, _, hcx⟩ := hx
  obtain ⟨q, d, rfl, hd, _, hcy⟩ := hy
  by_cases hl : xs.length = ys.length
  · rcases Nat.eq_zero_or_pos xs.length with h0 | h0
    · obtain rfl : xs = [] := List.eq_nil_of_length_eq_zero h0
      obtain rfl : ys = [] := List.eq_nil_of_length_eq_zero (by simpa using hl.symm)
      go_enter Tryd.func23, Tryd.ntmps23
      go_wp2
      go_loop [13] (fun t => t = .int .i64 0) (fun _ => 0)
      case atStart => rfl
      case round =>
        obtain rfl := hrel
        go_wp2
        go_ret
        exact ⟨rfl, Below.refl _ _⟩
    · obtain ⟨b, o, rfl, hbl, hcx⟩ := hcx h0
      obtain ⟨b', o', rfl, hbl', hcy⟩ := hcy (by omega)
      have hl' : ((xs.length : Int) == (ys.length : Int)) = true := by rw [hl]; simp
      go_enter Tryd.func23, Tryd.ntmps23
      go_wp2
      go_loopw [13] (fun t wr => ∃ j : Nat, j ≤ xs.length ∧ t = .int .i64 j ∧ Hid (∀ i, i < j → xs.getD i ByteArray.empty = ys.getD i ByteArray.empty) ∧ Below w.heap.size w wr) (fun t _ => xs.length - (intOf t).toNat)
      case atStart => exact ⟨0, by omega, rfl, fun i hi => by omega, Below.refl _ _⟩
      case round =>
        obtain ⟨j, hj, rfl, hs, hb⟩ := hrel
        by_cases hlt : j < xs.length
        · have c1 : wr.cell? ⟨b, o + j, none⟩ = some (.string (xs.getD j ByteArray.empty)) := (hb.cell (p := ⟨b, o + j, none⟩) hbl).trans (hcx j hlt)
          have c2 : wr.cell? ⟨b', o' + j, none⟩ = some (.string (ys.getD j ByteArray.empty)) := (hb.cell (p := ⟨b', o' + j, none⟩) hbl').trans (hcy j (by omega))
          have hj1 : (j : Int) < (xs.length : Int) := by omega
          have hj2 : (j : Int) < (ys.length : Int) := by omega
          by_cases he : xs.getD j ByteArray.empty = ys.getD j ByteArray.empty
          · have he' : ((xs.getD j ByteArray.empty).toList == (ys.getD j ByteArray.empty).toList) = true := by rw [he]; exact beq_self_eq_true _
            have hs' : Hid (∀ i, i < j + 1 → xs.getD i ByteArray.empty = ys.getD i ByteArray.empty) := fun i hi => by
              by_cases e : i = j
              · rw [e]; exact he
              · exact hs.out i (by omega)
            clear hs he hcx hcy
            generalize xs.getD j ByteArray.empty = x at *
            generalize ys.getD j ByteArray.empty = y at *
            go_wp2
            go_quiet (fail)
            go_wp2
            go_roundw
            case rel => exact ⟨j + 1, by omega, by simp, hs', below_drewN hb _⟩
            case measure => simp only [intOf]; omega
          · have he' : ((xs.getD j ByteArray.empty).toList == (ys.getD j ByteArray.empty).toList) = false := str_ne he
            have hd0 : Hid (decide (xs = ys) = false) := decide_eq_false fun e => he (by rw [e])
            clear hs he hcx hcy
            generalize xs.getD j ByteArray.empty = x at *
            generalize ys.getD j ByteArray.empty = y at *
            go_wp2
            go_quiet (fail)
            go_wp2
            go_ret
            exact ⟨by rw [hd0.out]; rfl, below_drewN hb _⟩
        · obtain rfl : j = xs.length := by omega
          have he : Hid (decide (xs = ys) = true) := decide_eq_true (List.ext_getElem hl fun i h1 h2 => by
            have := hs.out i h1
            simpa [List.getD_eq_getElem?_getD, List.getElem?_eq_getElem h1, List.getElem?_eq_getElem h2] using this)
          clear hs hcx hcy
          go_wp2
          go_ret
          exact ⟨by rw [he.out]; rfl, hb⟩
  · have hne : xs ≠ ys := fun e => hl (by rw [e])
    have hd0 : decide (xs = ys) = false := decide_eq_false hne
    have hl' : ((xs.length : Int) == (ys.length : Int)) = false := by
      rw [beq_eq_false_iff_ne]; omega
    clear hcx hcy
    rw [hd0]
    go_enter Tryd.func23, Tryd.ntmps23
    go_wp2
    go_ret
    exact ⟨rfl, Below.refl _ _⟩

end Go.Proofs.YtiobfdfmfgjpfaaDoor
