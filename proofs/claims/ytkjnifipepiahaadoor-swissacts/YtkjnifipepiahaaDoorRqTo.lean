import Derived.Test.YtkjnifipepiahaaDoorSwVTo
import Derived.ProofKit
import Derived.OpenShut
import Derived.Deep.SlicePairs
import Derived.SizedLaws
import Derived.Deep.Quiet
import Derived.OrdersIn
import Derived.RangeFuncCalls
import Derived.BigQuiet
import Derived.Deep.QuietTactic
/-
  A slice of acts that came in; corbellaw05.few.
-/
namespace Go.Proofs.YtkjnifipepiahaaDoor
open Go.RowKit

/-- An act: its kind, its key, its value. -/
structure Act' where
  kind : Int
  key : ByteArray
  value : ByteArray
instance : Inhabited Act' := ⟨⟨0, ByteArray.empty, ByteArray.empty⟩⟩

/-- A slice of acts, as it lies in memory. -/
def HasA (w : World) (v : Value) (xs : List Act') : Prop :=
  ∃ p c, v = .slice p xs.length c ∧ xs.length ≤ c ∧ (p = none → c = 0) ∧
    (0 < xs.length → ∃ b o, p = some ⟨b, o, none⟩ ∧ b < w.heap.size ∧ ∀ i, i < xs.length →
      w.cell? ⟨b, o + i * 3, none⟩ = some (.int .i64 (xs.getD i default).kind) ∧ w.cell? ⟨b, o + i * 3 + 1, none⟩ = some (.string (xs.getD i default).key) ∧ w.cell? ⟨b, o + i * 3 + 2, none⟩ = some (.string (xs.getD i default).value) ∧
      (xs.getD i default).key.size ≤ 140737488351232 ∧ (xs.getD i default).value.size ≤ 140737488351232)
theorem HasA.below {w w' : World} {B : Nat} {v : Value} {xs : List Act'} (h : HasA w v xs) (hb : Below B w w') (hB : w.heap.size ≤ B) : HasA w' v xs := by
  obtain ⟨p, c, rfl, h1, h2, h3⟩ := h
  refine ⟨p, c, rfl, h1, h2, fun h0 => ?_⟩
  obtain ⟨b, o, rfl, hlt, hc⟩ := h3 h0
  refine ⟨b, o, rfl, Nat.lt_of_lt_of_le hlt hb.size, fun i hi => ?_⟩
  obtain ⟨h4, h5, h6, h7⟩ := hc i hi
  exact ⟨(hb.cell (p := ⟨b, o + i * 3, none⟩) (by exact Nat.lt_of_lt_of_le hlt hB)).trans h4, (hb.cell (p := ⟨b, o + i * 3 + 1, none⟩) (by exact Nat.lt_of_lt_of_le hlt hB)).trans h5, (hb.cell (p := ⟨b, o + i * 3 + 2, none⟩) (by exact Nat.lt_of_lt_of_le hlt hB)).trans h6, h7⟩

/-- What few reckons of a row of acts. -/
def costA (a : Act') : Nat := 1 + (a.key.size + a.value.size) / 50
def Few (xs : List Act') : Prop := (xs.map costA).sum ≤ 600

theorem few_len {xs : List Act'} (h : Few xs) : xs.length ≤ 600 := by
  have : ∀ l : List Act', l.length ≤ (l.map costA).sum := by
    intro l
    induction l with
    | nil => exact Nat.le_refl _
    | cons a l ih => rw [List.map_cons, List.sum_cons, List.length_cons]; unfold costA; unfold costA at ih; omega
  exact Nat.le_trans (this xs) h
theorem few_key {xs : List Act'} (h : Few xs) {a : Act'} (ha : a ∈ xs) : a.key.size + a.value.size ≤ 30000 := by
  have : ∀ l : List Act', a ∈ l → costA a ≤ (l.map costA).sum := by
    intro l
    induction l with
    | nil => exact fun h => by cases h
    | cons b l ih =>
      intro hm
      rw [List.map_cons, List.sum_cons]
      rcases List.mem_cons.1 hm with rfl | hm
      · omega
      · have := ih hm; omega
  have h1 := this xs ha
  unfold Few at h
  unfold costA at h1 h
  omega

theorem few_step (k ks vs : Nat) (hk : k ≤ 600) (h1 : ks ≤ 140737488351232) (h2 : vs ≤ 140737488351232) :
    wrap64 ((k : Int) + wrap64 (1 + wrap64 ((wrap64 ((ks : Int) + vs)).tdiv 50))) = ((k + (1 + (ks + vs) / 50) : Nat) : Int) := by
  rw [IntWalk.wrap64_in ((ks : Int) + vs) (by omega), Int.tdiv_eq_ediv_of_nonneg (by omega)]
  obtain ⟨q, hq⟩ : ∃ q : Nat, q = (ks + vs) / 50 := ⟨_, rfl⟩
  have e : ((ks : Int) + vs) / 50 = q := by omega
  have hq' : q ≤ 281474976710656 := by omega
  rw [e, ← hq, IntWalk.wrap64_in (q : Int) (by omega), IntWalk.wrap64_in (1 + (q : Int)) (by omega), IntWalk.wrap64_in _ (by omega)]
  omega

set_option maxRecDepth 10000 in
set_option maxHeartbeats 4000000 in
theorem few_any (p : Option Addr) (n c : Nat) (xs : List Act') (hlen : xs.length = n) (w : World) (hX : HasA w (.slice p n c) xs) (hn : (n : Int) ≤ 9223372036854775807) :
    Calls Tryd.prog 11 #[.slice p n c] w fun e w' => ∃ r : Bool, e = .returned (.bool r) ∧ (r = true → Few xs) ∧ Below w.heap.size w w' := by
  have hlen' : Hid (xs.length = n) := hlen
  clear hlen
  go_enter Tryd.func11, Tryd.ntmps11
  go_wp2
  go_loopw [8, 3] (fun t s wr => ∃ (j : Nat) (k : Nat), j ≤ n ∧ t = .int .i64 (j : Nat) ∧ s = .int .i64 (k : Nat) ∧ k ≤ 600 ∧ Hid (((xs.take j).map costA).sum = k) ∧ Below w.heap.size w wr) (fun t _ _ => n - (intOf t).toNat)
  case atStart => exact ⟨0, 0, by omega, rfl, rfl, by omega, rfl, Below.refl _ _⟩
  case round =>
    obtain ⟨j, k, hj, rfl, rfl, hk, hs, hb⟩ := hrel
    by_cases hlt : j < n
    · obtain ⟨p', c', hpv, hcc, _, hcell⟩ := hX.below (hb.mono (Nat.le_refl _)) (Nat.le_refl _)
      simp only [Value.slice.injEq] at hpv
      obtain ⟨rfl, hnn, rfl⟩ := hpv
      rw [← hnn] at hcc hcell
      clear hnn
      obtain ⟨bb, oo, rfl, hbb, hcell⟩ := hcell (by omega)
      obtain ⟨c1, c2, c3, z1, z2⟩ := hcell j (by omega)
      clear hcell
      have hmem : Hid (∀ a, a = xs.getD j default → xs.take j ++ [a] = xs.take (j + 1)) := fun a ha => by
        have hjx : j < xs.length := by rw [hlen'.out]; exact hlt
        rw [ha, List.take_succ_eq_append_getElem hjx]
        simp [List.getD_eq_getElem?_getD, List.getElem?_eq_getElem hjx]
      generalize hkey : xs.getD j default = act at *
      have hkk : Hid (xs.take j ++ [act] = xs.take (j + 1)) := hmem.out act rfl
      clear hmem hkey
      obtain ⟨kd, ky, vl⟩ := act
      dsimp only at c1 c2 c3 z1 z2
      have hsum : Hid (((xs.take (j + 1)).map costA).sum = k + costA ⟨kd, ky, vl⟩) := by
        show _ = _
        rw [← hkk.out, List.map_append, List.sum_append, hs.out]; simp
      have hcst : Hid (costA ⟨kd, ky, vl⟩ = 1 + (ky.size + vl.size) / 50) := rfl
      have hst := few_step k ky.size vl.size hk z1 z2
      clear hkk hs
      generalize costA ⟨kd, ky, vl⟩ = cst at *
      by_cases h6 : 600 < (k : Int) + (1 + ((ky.size : Int) + vl.size) / 50)
      · go_wp2
        go_ret
        exact ⟨false, rfl, (fun h => by cases h), hb.alloc (by have := hb.size; omega) _⟩
      · go_wp2
        go_roundw
        case rel =>
          refine ⟨j + 1, k + (1 + (ky.size + vl.size) / 50), by omega, by simp, by simp, by omega, ?_, hb.alloc (by have := hb.size; omega) _⟩
          show _ = _
          rw [hsum.out, hcst.out]
        case measure => simp only [intOf]; omega
    · have hjn : j = n := by omega
      subst hjn
      go_wp2
      go_ret
      refine ⟨true, rfl, fun _ => ?_, hb⟩
      unfold Few
      rw [← List.take_length (l := xs), hlen'.out, hs.out]
      exact hk
end Go.Proofs.YtkjnifipepiahaaDoor

/-
  From a row's own words to this proof's: a slice of acts that came in.
-/
namespace Go.Proofs.YtkjnifipepiahaaDoor
open Go.ChangeShapes Go.WideShapes Go.ChangeAt Go.RowKit Go.Deep

theorem acts_cells {H : Type} {enc : TypeId × Value → H} {P : Program} {w : World} {base : Nat} {spare : Nat → Bool} {held : Bool} {t e : TypeId} {f0 f1 f2 : Field} {fuel : Nat} {a : Option Addr} {n c : Nat} {x : DataW H × List MemPlace}
    (ht : P.underlying t = some (.slice e)) (he : P.underlying e = some (.struct #[f0, f1, f2])) (ce : P.cellsOf e = 3) (o0 : f0.offset = 0) (o1 : f1.offset = 1) (o2 : f2.offset = 2)
    (c0 : P.cellsOf f0.type = 1) (c1 : P.cellsOf f1.type = 1) (c2 : P.cellsOf f2.type = 1) (u0 : P.underlying f0.type = some (.int .i64)) (u1 : P.underlying f1.type = some .string) (u2 : P.underlying f2.type = some .string)
    (h : DataW.trod enc P w base spare held fuel t (Value.cells (.slice a n c)).toList = some x) :
    (a = none ∧ n = 0 ∧ c = 0) ∨
    ∃ (a' : Addr) (D : Nat → DataW H) (A : Nat → Act') (sp : List (DataW H)), a = some a' ∧ n ≤ c ∧ c ≤ maxLen ∧ x.1 = .slice ((List.range n).map D) sp ∧
      ∀ i, i < n → D i = .agg [.lit (.int .i64 (A i).kind), .lit (.string (A i).key.data.toList), .lit (.string (A i).value.data.toList)] ∧
        w.cell? (a'.add (i * 3)) = some (.int .i64 (A i).kind) ∧ w.cell? (a'.add (i * 3 + 1)) = some (.string (A i).key) ∧ w.cell? (a'.add (i * 3 + 2)) = some (.string (A i).value) := by
  rcases open_slice ht h with ⟨hcs, _⟩ | ⟨a', len, cap, m, k, D, Pl, hcs, hb, hl, hm, hmm, rfl, hx⟩
  · simp [Value.cells] at hcs
    exact .inl ⟨hcs.1, hcs.2.1, hcs.2.2⟩
  · simp [Value.cells] at hcs
    obtain ⟨rfl, rfl, rfl⟩ := hcs
    have hlm : n ≤ m := by rw [hmm]; split <;> omega
    have each : ∀ i, i < n → ∃ A : Act', D i = .agg [.lit (.int .i64 A.kind), .lit (.string A.key.data.toList), .lit (.string A.value.data.toList)] ∧
        w.cell? (a'.add (i * 3)) = some (.int .i64 A.kind) ∧ w.cell? (a'.add (i * 3 + 1)) = some (.string A.key) ∧ w.cell? (a'.add (i * 3 + 2)) = some (.string A.value) := by
      intro i hi
      obtain ⟨cs', h1, h2⟩ := hx i (by omega)
      rw [ce] at h1
      obtain ⟨_, hlen, hcell⟩ := World.cells?_some h1
      obtain ⟨xs, k', hk, hxy, _, hxl, hf⟩ := DataW.trod_struct he h2
      match xs, hxl, cs', hlen with
      | [y0, y1, y2], _, [v0, v1, v2], _ =>
        have g0 := hf 0 f0 rfl
        have g1 := hf 1 f1 rfl
        have g2 := hf 2 f2 rfl
        simp [o0, o1, o2, c0, c1, c2] at g0 g1 g2
        obtain ⟨z, hz, rfl, _⟩ := DataW.trod_int u0 g0
        obtain ⟨s1, hs1, rfl, _⟩ := DataW.trod_string u1 g1
        obtain ⟨s2, hs2, rfl, _⟩ := DataW.trod_string u2 g2
        cases hz; cases hs1; cases hs2
        have e0 := hcell 0 (by omega)
        have e1 := hcell 1 (by omega)
        have e2 := hcell 2 (by omega)
        rw [add_add] at e0 e1 e2
        simp only [Prod.mk.injEq] at hxy
        exact ⟨⟨z, s1, s2⟩, by simpa using hxy.1, by simpa using e0, by simpa using e1, by simpa using e2⟩
    obtain ⟨A, hA⟩ := choose_lt each
    exact .inr ⟨a', D, A, _, rfl, hl, hm, rfl, hA⟩

theorem weights_all {H : Type} {P : Program} {e : TypeId} : ∀ {ds : List (DataW H)} {d : DataW H}, d ∈ ds → ∀ q ∈ d.weights P e, q ∈ DataW.weightsAll P e ds
  | d0 :: ds, d, hd, q, hq => by
    simp only [DataW.weightsAll, List.mem_append]
    rcases List.mem_cons.1 hd with rfl | hd
    · exact .inl hq
    · exact .inr (weights_all hd q hq)

theorem acts_in {H : Type} {enc : TypeId × Value → H} {P : Program} {w : World} {base : Nat} {spare : Nat → Bool} {held : Bool} {t e : TypeId} {f0 f1 f2 : Field} {fuel : Nat} {a : Option Addr} {n c : Nat} {x : DataW H × List MemPlace}
    (ht : P.underlying t = some (.slice e)) (he : P.underlying e = some (.struct #[f0, f1, f2])) (ce : P.cellsOf e = 3) (o0 : f0.offset = 0) (o1 : f1.offset = 1) (o2 : f2.offset = 2)
    (c0 : P.cellsOf f0.type = 1) (c1 : P.cellsOf f1.type = 1) (c2 : P.cellsOf f2.type = 1) (u0 : P.underlying f0.type = some (.int .i64)) (u1 : P.underlying f1.type = some .string) (u2 : P.underlying f2.type = some .string)
    (h : DataW.trod enc P w base spare held fuel t (Value.cells (.slice a n c)).toList = some x) (hw : ∀ q ∈ x.1.weights P t, q ≤ reachBytes) :
    ∃ zs : List Act', zs.length = n ∧ HasA w (.slice a n c) zs ∧ (n : Int) ≤ 9223372036854775807 := by
  rcases acts_cells ht he ce o0 o1 o2 c0 c1 c2 u0 u1 u2 h with ⟨rfl, rfl, rfl⟩ | ⟨a', D, A, sp, rfl, hl, hm, hx, hA⟩
  · exact ⟨[], rfl, ⟨none, 0, rfl, Nat.le_refl _, fun _ => rfl, fun h => absurd h (Nat.lt_irrefl 0)⟩, by omega⟩
  · have hlen : ((List.range n).map A).length = n := by simp
    have hget : ∀ i, i < n → ((List.range n).map A).getD i default = A i := fun i hi => by simp [List.getD_eq_getElem?_getD, hi]
    have hsz : ∀ i, i < n → (A i).key.size ≤ 140737488351232 ∧ (A i).value.size ≤ 140737488351232 := fun i hi => by
      have hin : ∀ q ∈ (D i).weights P e, q ≤ reachBytes := fun q hq => hw q (by
        rw [hx]
        simp only [DataW.weights, ht, List.mem_cons, List.mem_append]
        exact .inr (.inl (weights_all (List.mem_map.2 ⟨i, List.mem_range.2 hi, rfl⟩) q hq)))
      rw [(hA i hi).1] at hin
      simp [DataW.weights, he, DataW.weightsEach, reachBytes] at hin
      exact hin
    refine ⟨(List.range n).map A, hlen, ⟨some a', c, by rw [hlen], by rw [hlen]; exact hl, (fun h => by cases h), fun h0 => ?_⟩, by unfold maxLen at hm; omega⟩
    rw [hlen] at h0 ⊢
    obtain ⟨b, o, s⟩ := a'
    obtain rfl : s = none := by simpa [Addr.add] using World.cell?_spot (hA 0 h0).2.1
    refine ⟨b, o, rfl, World.block_lt_of_cell? w _ (hA 0 h0).2.1, fun i hi => ?_⟩
    obtain ⟨_, h1, h2, h3⟩ := hA i hi
    rw [hget i hi]
    rw [Go.WideShapes.add_plain] at h1 h2 h3
    exact ⟨h1, h2, h3, hsz i hi⟩
end Go.Proofs.YtkjnifipepiahaaDoor

/-
  A region that draws its order and only reads, in a round of a range over a function: one walk, in the order of the text. No program is named here.
-/
namespace Go.Proofs.YtkjnifipepiahaaDoor
open Go.RowKit

def noDefer (L : List Oper) : Bool := L.all fun o => match o.op with
  | .defer _ => false
  | _ => true
theorem noDefer_at {L : List Oper} (h : noDefer L = true) {o : Oper} (ho : o ∈ L) : ∀ c, o.op ≠ .defer c := fun c e => by
  have := (List.all_eq_true.1 h) o ho
  rw [e] at this
  cases this

theorem wpIn_of_quiet {P : Program} {C : World → Prop} {l n : Nat} {o : Oper} (hd : ∀ c, o.op ≠ .defer c) {a : Act} {K : Act → Prop} {K' : Act → World → Prop} {Q' : Exit → Act → World → Prop} {w : World} (hw : C w) (h : ∀ a w', C w' → K a → K' a w')
    (hh : o.quiet P a C K) : o.wpIn (Fence.wide.inRound l) n P a w K' Q' := by
  obtain ⟨v, h1, h2⟩ := hh
  have h3 := h1 w hw
  unfold Oper.quietAt at h3
  unfold Oper.wpIn
  refine ⟨fun _ _ => trivial, ?_⟩
  rw [Oper.semAt_eq _ _ _ hd]
  generalize (execOp a.eval o).run P w = r at *
  cases r with
  | ok n w' =>
    cases n <;> simp only [Oper.quietUpon] at h3 <;> simp only [Oper.uponIn]
    case value u =>
      obtain ⟨e1, e2⟩ := h3
      rw [e1, e2]
      exact h _ _ hw h2
    case skip =>
      obtain ⟨e1, e2⟩ := h3
      rw [e1, ← e2]
      exact h _ _ hw h2
    case enter f args =>
      obtain ⟨e1, hc⟩ := h3
      rw [e1]
      refine ⟨(fun h => by cases h), CallsIn.inRound l (callsIn_wide.2 (hc.mono fun e w'' ⟨he, hw''⟩ => ?_))⟩
      subst he
      exact h _ _ hw'' h2
  | halt x w' => simp only [Oper.quietUpon] at h3

theorem wpAnyIn_of_quiet' {P : Program} {md : Region.Mode} {C : World → Prop} {l n : Nat} {L : List Oper} (hd : noDefer L = true) {Q : Act → Prop} {Q' : Exit → Act → World → Prop} (hQ : ∀ a w, C w → Q a → Q' .normal a w) :
    ∀ (fuel : Nat) (listed : Array Bool) (a : Act) (w : World), C w → wpAnyQ P md L.toArray C Q fuel listed a → wpAnyIn (Fence.wide.inRound l) n P md L.toArray Q' fuel listed a w
  | 0, _, _, _, hw, h => ⟨h.1, hQ _ _ hw h.2⟩
  | fuel + 1, _, _, _, hw, h => ⟨fun h0 => hQ _ _ hw (h.1 h0), fun i hi => by
      have hh := h.2 i hi
      unfold qOp at hh
      unfold wpOpIn
      split
      · rename_i ho
        simp only [ho] at hh
        exact wpAnyIn_of_quiet' hd hQ fuel _ _ _ hw hh
      · rename_i o ho
        simp only [ho] at hh
        have hm : o ∈ L := by
          have := Array.mem_of_getElem? ho
          simpa using this
        split
        · rename_i hw'
          simp only [hw', if_true] at hh
          exact wpIn_of_quiet (noDefer_at hd hm) hw (fun a' w' hw' => wpAnyIn_of_quiet' hd hQ fuel _ a' w' hw') hh
        · rename_i hw'
          simp only [hw'] at hh
          exact ⟨fun _ _ => trivial, wpAnyIn_of_quiet' hd hQ fuel _ _ _ hw hh⟩⟩

/-- ONE WALK OF THE TEXT's ORDER SERVES EVERY ORDER, IN A ROUND. -/
theorem wpIn_round_quiet {P : Program} {l n id : Nat} {Q : Exit → Act → World → Prop} {a : Act} {w : World} {L : List Oper} (hd : noDefer L = true) (hm : P.follows .mixedOrders = true) (hB : Region.lexB .any L.toArray = true)
    (h : wpQuiet P L.toArray (fun w' => ∃ n, w' = w.drewN n) (fun a' => ∀ w', (∃ n, w' = w.drewN n) → Q .normal a' w') L a) : (Code.region id L.toArray true).wpIn (Fence.wide.inRound l) n P Q a w := by
  simp only [Region.lexB, Bool.and_eq_true] at hB
  refine wpIn_region_any hm (wpAnyIn_of_quiet' (Q := fun a' => ∀ w', (∃ n, w' = w.drewN n) → Q .normal a' w') hd (fun _ w' hw' h => h w' hw') _ _ _ _ ⟨1, rfl⟩ ?_)
  have := wpAnyQ_lex (P := P) (md := .any) (C := fun w' => ∃ n, w' = w.drewN n) hB.1 L 0 (Array.replicate L.toArray.size false) a (by simp) (by simpa using hB.2) h
  simpa using this
end Go.Proofs.YtkjnifipepiahaaDoor
