import Derived.Test.YthlghokgknkpaaaDoorSwVTo
import Derived.Deep.QuietTactic
import Derived.BigQuiet
import Derived.Deep.Quiet
import Derived.OrdersIn
import Derived.RangeFuncCalls
/-
  A slice of acts that came in; few of the statements' package.
-/
namespace Go.Proofs.YthlghokgknkpaaaDoor
open Go.RowKit

/-- An act: its kind, its key, its value. -/
structure Act' where
  kind : Int
  key : ByteArray
  value : ByteArray
instance : Inhabited Act' := ⟨⟨0, ByteArray.empty, ByteArray.empty⟩⟩

/-- A slice of acts, as it lies in memory. -/
def HasA (w : World) (v : Value) (xs : List Act') : Prop :=
  ∃ p c, v = .slice p xs.length c ∧ xs.length ≤ c ∧ (p = none → c = 0) ∧
    (0 < xs.length → ∃ b o, p = some ⟨b, o, none⟩ ∧ b < w.heap.size ∧ ∀ i, i < xs.length →
      w.cell? ⟨b, o + i * 3, none⟩ = some (.int .i64 (xs.getD i default).kind) ∧ w.cell? ⟨b, o + i * 3 + 1, none⟩ = some (.string (xs.getD i default).key) ∧ w.cell? ⟨b, o + i * 3 + 2, none⟩ = some (.string (xs.getD i default).value) ∧
      (xs.getD i default).key.size ≤ 140737488351232 ∧ (xs.getD i default).value.size ≤ 140737488351232)
theorem HasA.below {w w' : World} {B : Nat} {v : Value} {xs : List Act'} (h : HasA w v xs) (hb : Below B w w') (hB : w.heap.size ≤ B) : HasA w' v xs := by
  obtain ⟨p, c, rfl, h1, h2, h3⟩ := h
  refine ⟨p, c, rfl, h1, h2, fun h0 => ?_⟩
  obtain ⟨b, o, rfl, hlt, hc⟩ := h3 h0
  refine ⟨b, o, rfl, Nat.lt_of_lt_of_le hlt hb.size, fun i hi => ?_⟩
  obtain ⟨h4, h5, h6, h7⟩ := hc i hi
  exact ⟨(hb.cell (p := ⟨b, o + i * 3, none⟩) (by exact Nat.lt_of_lt_of_le hlt hB)).trans h4, (hb.cell (p := ⟨b, o + i * 3 + 1, none⟩) (by exact Nat.lt_of_lt_of_le hlt hB)).trans h5, (hb.cell (p := ⟨b, o + i * 3 + 2, none⟩) (by exact Nat.lt_of_lt_of_le hlt hB)).trans h6, h7⟩

/-- What few reckons of a row of acts. -/
def costA (a : Act') : Nat := 1 + (a.key.size + a.value.size) / 50
def Few (xs : List Act') : Prop := (xs.map costA).sum ≤ 600

theorem few_len {xs : List Act'} (h : Few xs) : xs.length ≤ 600 := by
  have : ∀ l : List Act', l.length ≤ (l.map costA).sum := by
    intro l
    induction l with
    | nil => exact Nat.le_refl _
    | cons a l ih => rw [List.map_cons, List.sum_cons, List.length_cons]; unfold costA; unfold costA at ih; omega
  exact Nat.le_trans (this xs) h
theorem few_key {xs : List Act'} (h : Few xs) {a : Act'} (ha : a ∈ xs) : a.key.size + a.value.size ≤ 30000 := by
  have : ∀ l : List Act', a ∈ l → costA a ≤ (l.map costA).sum := by
    intro l
    induction l with
    | nil => exact fun h => by cases h
    | cons b l ih =>
      intro hm
      rw [List.map_cons, List.sum_cons]
      rcases List.mem_cons.1 hm with rfl | hm
      · omega
      · have := ih hm; omega
  have h1 := this xs ha
  unfold Few at h
  unfold costA at h1 h
  omega

theorem few_step (k ks vs : Nat) (hk : k ≤ 300) (h1 : ks ≤ 140737488351232) (h2 : vs ≤ 140737488351232) :
    wrap64 ((k : Int) + wrap64 (1 + wrap64 ((wrap64 ((ks : Int) + vs)).tdiv 50))) = ((k + (1 + (ks + vs) / 50) : Nat) : Int) := by
  rw [IntWalk.wrap64_in ((ks : Int) + vs) (by omega), Int.tdiv_eq_ediv_of_nonneg (by omega)]
  obtain ⟨q, hq⟩ : ∃ q : Nat, q = (ks + vs) / 50 := ⟨_, rfl⟩
  have e : ((ks : Int) + vs) / 50 = q := by omega
  have hq' : q ≤ 281474976710656 := by omega
  rw [e, ← hq, IntWalk.wrap64_in (q : Int) (by omega), IntWalk.wrap64_in (1 + (q : Int)) (by omega), IntWalk.wrap64_in _ (by omega)]
  omega
end Go.Proofs.YthlghokgknkpaaaDoor

/-
  Contracts: corbelref01.Words, corbelref01.Texts.
-/
namespace Go.Proofs.YthlghokgknkpaaaDoor
open Go.RowKit Go.Shelf

/-- A slice of words, as it lies in memory. -/
def HasW (w : World) (v : Value) (xs : List Nat) : Prop :=
  ∃ p c, v = .slice p xs.length c ∧ xs.length ≤ c ∧ (p = none → c = 0) ∧
    (0 < xs.length → ∃ b o, p = some ⟨b, o, none⟩ ∧ b < w.heap.size ∧ ∀ i, i < xs.length → w.cell? ⟨b, o + i, none⟩ = some (.int .u64 ((xs.getD i 0 : Nat) : Int)))
theorem HasW.below {w w' : World} {B : Nat} {v : Value} {xs : List Nat} (h : HasW w v xs) (hb : Below B w w') (hB : w.heap.size ≤ B) : HasW w' v xs := by
  obtain ⟨p, c, rfl, h1, h2, h3⟩ := h
  refine ⟨p, c, rfl, h1, h2, fun h0 => ?_⟩
  obtain ⟨b, o, rfl, hlt, hc⟩ := h3 h0
  exact ⟨b, o, rfl, Nat.lt_of_lt_of_le hlt hb.size, fun i hi => (hb.cell (p := ⟨b, o + i, none⟩) (by exact Nat.lt_of_lt_of_le hlt hB)).trans (hc i hi)⟩

end Go.Proofs.YthlghokgknkpaaaDoor

/-
  A region that draws its order and only reads, in a round of a range over a function: one walk, in the order of the text. No program is named here.
-/
namespace Go.Proofs.YthlghokgknkpaaaDoor
open Go.RowKit

def noDefer (L : List Oper) : Bool := L.all fun o => match o.op with
  | .defer _ => false
  | _ => true
theorem noDefer_at {L : List Oper} (h : noDefer L = true) {o : Oper} (ho : o ∈ L) : ∀ c, o.op ≠ .defer c := fun c e => by
  have := (List.all_eq_true.1 h) o ho
  rw [e] at this
  cases this

theorem wpIn_of_quiet {P : Program} {C : World → Prop} {l n : Nat} {o : Oper} (hd : ∀ c, o.op ≠ .defer c) {a : Act} {K : Act → Prop} {K' : Act → World → Prop} {Q' : Exit → Act → World → Prop} {w : World} (hw : C w) (h : ∀ a w', C w' → K a → K' a w')
    (hh : o.quiet P a C K) : o.wpIn (Fence.wide.inRound l) n P a w K' Q' := by
  obtain ⟨v, h1, h2⟩ := hh
  have h3 := h1 w hw
  unfold Oper.quietAt at h3
  unfold Oper.wpIn
  refine ⟨fun _ _ => trivial, ?_⟩
  rw [Oper.semAt_eq _ _ _ hd]
  generalize (execOp a.eval o).run P w = r at *
  cases r with
  | ok n w' =>
    cases n <;> simp only [Oper.quietUpon] at h3 <;> simp only [Oper.uponIn]
    case value u =>
      obtain ⟨e1, e2⟩ := h3
      rw [e1, e2]
      exact h _ _ hw h2
    case skip =>
      obtain ⟨e1, e2⟩ := h3
      rw [e1, ← e2]
      exact h _ _ hw h2
    case enter f args =>
      obtain ⟨e1, hc⟩ := h3
      rw [e1]
      refine ⟨(fun h => by cases h), CallsIn.inRound l (callsIn_wide.2 (hc.mono fun e w'' ⟨he, hw''⟩ => ?_))⟩
      subst he
      exact h _ _ hw'' h2
  | halt x w' => simp only [Oper.quietUpon] at h3

theorem wpAnyIn_of_quiet' {P : Program} {md : Region.Mode} {C : World → Prop} {l n : Nat} {L : List Oper} (hd : noDefer L = true) {Q : Act → Prop} {Q' : Exit → Act → World → Prop} (hQ : ∀ a w, C w → Q a → Q' .normal a w) :
    ∀ (fuel : Nat) (listed : Array Bool) (a : Act) (w : World), C w → wpAnyQ P md L.toArray C Q fuel listed a → wpAnyIn (Fence.wide.inRound l) n P md L.toArray Q' fuel listed a w
  | 0, _, _, _, hw, h => ⟨h.1, hQ _ _ hw h.2⟩
  | fuel + 1, _, _, _, hw, h => ⟨fun h0 => hQ _ _ hw (h.1 h0), fun i hi => by
      have hh := h.2 i hi
      unfold qOp at hh
      unfold wpOpIn
      split
      · rename_i ho
        simp only [ho] at hh
        exact wpAnyIn_of_quiet' hd hQ fuel _ _ _ hw hh
      · rename_i o ho
        simp only [ho] at hh
        have hm : o ∈ L := by
          have := Array.mem_of_getElem? ho
          simpa using this
        split
        · rename_i hw'
          simp only [hw', if_true] at hh
          exact wpIn_of_quiet (noDefer_at hd hm) hw (fun a' w' hw' => wpAnyIn_of_quiet' hd hQ fuel _ a' w' hw') hh
        · rename_i hw'
          simp only [hw'] at hh
          exact ⟨fun _ _ => trivial, wpAnyIn_of_quiet' hd hQ fuel _ _ _ hw hh⟩⟩

/-- ONE WALK OF THE TEXT's ORDER SERVES EVERY ORDER, IN A ROUND. -/
theorem wpIn_round_quiet {P : Program} {l n id : Nat} {Q : Exit → Act → World → Prop} {a : Act} {w : World} {L : List Oper} (hd : noDefer L = true) (hm : P.follows .mixedOrders = true) (hB : Region.lexB .any L.toArray = true)
    (h : wpQuiet P L.toArray (fun w' => ∃ n, w' = w.drewN n) (fun a' => ∀ w', (∃ n, w' = w.drewN n) → Q .normal a' w') L a) : (Code.region id L.toArray true).wpIn (Fence.wide.inRound l) n P Q a w := by
  simp only [Region.lexB, Bool.and_eq_true] at hB
  refine wpIn_region_any hm (wpAnyIn_of_quiet' (Q := fun a' => ∀ w', (∃ n, w' = w.drewN n) → Q .normal a' w') hd (fun _ w' hw' h => h w' hw') _ _ _ _ ⟨1, rfl⟩ ?_)
  have := wpAnyQ_lex (P := P) (md := .any) (C := fun w' => ∃ n, w' = w.drewN n) hB.1 L 0 (Array.replicate L.toArray.size false) a (by simp) (by simpa using hB.2) h
  simpa using this
end Go.Proofs.YthlghokgknkpaaaDoor
