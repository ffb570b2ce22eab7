import Derived.Deep.Quiet
import Derived.OrdersIn
import Derived.RangeFuncCalls
import Derived.BigQuiet
import Derived.Deep.QuietTactic
namespace Go.Proofs.Ytgjjbnnojmighaa
open Go.RowKit
def noDefer (L : List Oper) : Bool := L.all fun o => match o.op with
  | .defer _ => false
  | _ => true
theorem noDefer_at {L : List Oper} (h : noDefer L = true) {o : Oper} (ho : o ∈ L) : ∀ c, o.op ≠ .defer c := fun c e => by
  have := (List.all_eq_true.1 h) o ho
  rw [e] at this
  cases this

variable {P : Program} {ops : Array Oper} {md : Region.Mode} {C : World → Prop} {F : Fence} {n : Nat}

def Closed (md : Region.Mode) (ops : Array Oper) (listed : Array Bool) : Prop := ∀ j o, ops[j]? = some o → listed.getD j false = true → ∀ e ∈ o.after, Region.binds md e = true → listed.getD e.on false = true

theorem Closed.set {listed : Array Bool} (h : Closed md ops listed) {j : Nat} (hj : j ∈ Region.ready md ops listed) : Closed md ops (listed.setIfInBounds j true) := by
  intro i o ho hi e he hb
  obtain ⟨_, o', ho', hall⟩ := mem_ready.1 hj
  by_cases hij : i = j
  · subst hij
    rw [ho] at ho'
    cases ho'
    exact getD_set_true (hall e he hb)
  · rw [getD_set_ne false (Ne.symm hij)] at hi
    exact getD_set_true (h i o ho hi e he hb)

def waitedB (md : Region.Mode) (ops : Array Oper) (k : Nat) : Bool :=
  (List.range k).all fun i => (List.range (k + 1)).any fun j => decide (i < j) && ((ops[j]?).map fun o => o.after.any fun e => Region.binds md e && e.on == i).getD false

theorem waited_spec {k : Nat} (h : waitedB md ops k = true) (i : Nat) (hi : i < k) : ∃ j o e, i < j ∧ j ≤ k ∧ ops[j]? = some o ∧ e ∈ o.after ∧ Region.binds md e = true ∧ e.on = i := by
  unfold waitedB at h
  have h1 := List.all_eq_true.1 h i (List.mem_range.2 hi)
  obtain ⟨j, hj, h2⟩ := List.any_eq_true.1 h1
  rw [Bool.and_eq_true] at h2
  obtain ⟨h3, h4⟩ := h2
  cases ho : ops[j]? with
  | none => rw [ho] at h4; cases h4
  | some o =>
    rw [ho] at h4
    simp only [Option.map_some, Option.getD_some, Array.any_eq_true', Bool.and_eq_true, beq_iff_eq] at h4
    obtain ⟨e, he, hb, hon⟩ := h4
    exact ⟨j, o, e, of_decide_eq_true h3, Nat.lt_succ_iff.1 (List.mem_range.1 hj), ho, he, hb, hon⟩

theorem all_listed {k : Nat} {listed : Array Bool} (h : waitedB md ops k = true) (hc : Closed md ops listed) (hk : k ∈ Region.ready md ops listed) : ∀ i, i < k → listed.getD i false = true := by
  have H : ∀ d i, k - i ≤ d → i < k → listed.getD i false = true := by
    intro d
    induction d with
    | zero => intro i h1 h2; omega
    | succ d ih =>
      intro i h1 h2
      obtain ⟨j, o, e, hij, hjk, ho, he, hb, hon⟩ := waited_spec h i h2
      by_cases e1 : j = k
      · subst e1
        obtain ⟨_, o', ho', hall⟩ := mem_ready.1 hk
        rw [ho] at ho'
        cases ho'
        have := hall e he hb
        rwa [hon] at this
      · have := hc j o ho (ih j (by omega) (by omega)) e he hb
        rwa [hon] at this
  exact fun i hi => H (k - i) i (Nat.le_refl _) hi

def wpAnyE (P : Program) (md : Region.Mode) (ops : Array Oper) (C : World → Prop) (k : Nat) (R : Act → Prop) : Nat → Array Bool → Act → Prop
  | 0, _, _ => False
  | fuel + 1, listed, a => Region.ready md ops listed ≠ [] ∧ ∀ i ∈ Region.ready md ops listed, if i = k then fuel = 0 ∧ R a else qOp P ops C i (wpAnyE P md ops C k R fuel (listed.setIfInBounds i true)) a

theorem wpAnyE_first {k : Nat} {R : Act → Prop} {i : Nat} {oi : Oper} {v : Value} (hi : ops[i]? = some oi) (hik : i < k) (hw : waitedB md ops k = true) (hsel : ∀ (j : Nat) (o : Oper) cs b, ops[j]? = some o → o.op ≠ .select cs b) :
    ∀ (fuel : Nat) (listed : Array Bool) (a : Act), Closed md ops listed →
      (∀ j oj, ops[j]? = some oj → j ≠ i → listed.getD j true = false → (∀ e ∈ oj.after, Region.binds md e = true → e.on ≠ i) → oi.apart ops oj = true) →
      i ∈ Region.ready md ops listed → YieldsIn P ops C oi v a →
      wpAnyE P md ops C k R fuel (listed.setIfInBounds i true) (a.put oi.dst v) → wpAnyE P md ops C k R (fuel + 1) listed a := by
  intro fuel
  induction fuel with
  | zero => intro listed a _ _ _ _ H; exact H.elim
  | succ fuel ih =>
    intro listed a hcl hfree hr hy H
    have h0 := (mem_ready.1 hr).1
    refine ⟨fun h => (by rw [h] at hr; cases hr), fun j hj => ?_⟩
    by_cases hji : j = i
    · subst hji
      rw [if_neg (by omega)]
      exact hy.qOp hi H
    · by_cases hjk : j = k
      · subst hjk
        have h1 := all_listed hw hcl hj i hik
        rcases Nat.lt_or_ge i listed.size with h' | h'
        · simp [h'] at h0 h1; rw [h0] at h1; cases h1
        · simp [Array.getElem?_eq_none h'] at h1
      · rw [if_neg hjk]
        have h1 := H.2 j (ready_mono hj hji)
        rw [if_neg hjk] at h1
        obtain ⟨hjun, oj, hoj, hall⟩ := mem_ready.1 hj
        have hnot : ∀ e ∈ oj.after, Region.binds md e = true → e.on ≠ i := fun e he hb heq => by
          have h1 := hall e he hb
          rw [heq] at h1
          rcases Nat.lt_or_ge i listed.size with h' | h'
          · simp [h'] at h0 h1; rw [h0] at h1; cases h1
          · simp [Array.getElem?_eq_none h'] at h1
        have h2 := qOp_put hoj (hfree j oj hoj hji hjun hnot) (fun cs b => hsel i oi cs b hi) (fun cs b => hsel j oj cs b hoj) hy h1
        have hfree' : ∀ k ok, ops[k]? = some ok → k ≠ i → (listed.setIfInBounds j true).getD k true = false →
            (∀ e ∈ ok.after, Region.binds md e = true → e.on ≠ i) → oi.apart ops ok = true := fun k ok hk hki hun hno => by
          refine hfree k ok hk hki ?_ hno
          by_cases hjk : j = k
          · subst hjk; exact hjun
          · rw [getD_set_ne true hjk] at hun; exact hun
        refine qOp_mono (fun a' h3 => ih (listed.setIfInBounds j true) a' (hcl.set hj) hfree' (ready_mono hr (Ne.symm hji)) h3.1 ?_) h2
        rw [Array.setIfInBounds_comm _ _ hji]
        exact h3.2

def lexTo (md : Region.Mode) (ops : Array Oper) : Nat → Nat → Array Bool → Bool
  | 0, k, listed => Region.ready md ops listed == [k]
  | fuel + 1, k, listed => (Region.ready md ops listed).contains k && Region.free md ops listed k && lexTo md ops fuel (k + 1) (listed.setIfInBounds k true)

theorem wpAnyE_lex {R : Act → Prop} {k : Nat} (hs : Region.noSelect ops = true) (hw : waitedB md ops k = true) : ∀ (l : List Oper) (p : Nat) (listed : Array Bool) (a : Act), Closed md ops listed → p + l.length = k → (∀ j, j < l.length → l[j]? = ops[p + j]?) →
    lexTo md ops l.length p listed = true → wpQuiet P ops C R l a → wpAnyE P md ops C k R (l.length + 1) listed a
  | [], p, listed, a, _, hp, _, hB, h => by
    have hB' : Region.ready md ops listed = [p] := by simpa [lexTo] using hB
    have hp' : p = k := by simpa using hp
    refine ⟨by rw [hB']; simp, fun i hi => ?_⟩
    rw [hB'] at hi
    have hi' := List.mem_singleton.1 hi
    rw [if_pos (by omega)]
    exact ⟨rfl, h⟩
  | o :: l, p, listed, a, hcl, hp, hl, hB, h => by
    have h0 : ops[p]? = some o := by simpa using (hl 0 (by simp)).symm
    simp only [List.length_cons, lexTo, Bool.and_eq_true] at hB
    obtain ⟨⟨hr, hf⟩, hB'⟩ := hB
    have hst : qOp P ops C p (wpQuiet P ops C R l) a := by unfold qOp; simp only [h0]; exact h
    obtain ⟨v, hy, hK⟩ := yieldsIn_of_qOp h0 hst
    have hr' : p ∈ Region.ready md ops listed := by simpa using hr
    exact wpAnyE_first h0 (by simp at hp; omega) hw (Region.noSelect_spec hs) (l.length + 1) listed a hcl (Region.free_spec h0 hf) hr' hy
      (wpAnyE_lex hs hw l (p + 1) _ _ (hcl.set hr') (by simp at hp; omega) (fun j hj => by have := hl (j + 1) (by simpa using hj); simpa [Nat.add_assoc, Nat.add_comm 1 j] using this) hB' hK)

theorem wpIn_of_quietF (hF : ∀ f, F.fn f) (hdep : F.depth = none) (hcalls : ∀ m f args w R, Calls P f args w R → CallsIn F m P f args w R) {o : Oper} (hd : ∀ c, o.op ≠ .defer c) {a : Act} {K : Act → Prop} {K' : Act → World → Prop} {Q' : Exit → Act → World → Prop} {w : World} (hw : C w) (h : ∀ a w', C w' → K a → K' a w')
    (hh : o.quiet P a C K) : o.wpIn F n P a w K' Q' := by
  obtain ⟨v, h1, h2⟩ := hh
  have h3 := h1 w hw
  unfold Oper.quietAt at h3
  unfold Oper.wpIn
  refine ⟨fun f _ => hF f, ?_⟩
  rw [Oper.semAt_eq _ _ _ hd]
  generalize (execOp a.eval o).run P w = r at *
  cases r with
  | ok n w' =>
    cases n <;> simp only [Oper.quietUpon] at h3 <;> simp only [Oper.uponIn]
    case value u =>
      obtain ⟨e1, e2⟩ := h3
      rw [e1, e2]
      exact h _ _ hw h2
    case skip =>
      obtain ⟨e1, e2⟩ := h3
      rw [e1, ← e2]
      exact h _ _ hw h2
    case enter f args =>
      obtain ⟨e1, hc⟩ := h3
      rw [e1]
      refine ⟨(fun h => by rw [hdep] at h; cases h), hcalls _ _ _ _ _ (hc.mono fun e w'' ⟨he, hw''⟩ => ?_)⟩
      subst he
      exact h _ _ hw'' h2
  | halt x w' => simp only [Oper.quietUpon] at h3

theorem wpAnyIn_of_E (hF : ∀ f, F.fn f) (hdep : F.depth = none) (hcalls : ∀ m f args w R, Calls P f args w R → CallsIn F m P f args w R) {L : List Oper} (hd : noDefer L = true) {k : Nat} (hk : L.length = k + 1) (hw : waitedB md L.toArray k = true) {R : Act → Prop} {Q' : Exit → Act → World → Prop}
    (hR : ∀ a w, C w → R a → wpOpIn F n P L.toArray Q' k (fun a' w' => Q' .normal a' w') a w) :
    ∀ (fuel : Nat) (listed : Array Bool) (a : Act) (w : World), Closed md L.toArray listed → C w → wpAnyE P md L.toArray C k R fuel listed a → wpAnyIn F n P md L.toArray Q' fuel listed a w
  | 0, _, _, _, _, _, h => h.elim
  | fuel + 1, listed, a, w, hcl, hCw, h => ⟨fun h0 => absurd h0 h.1, fun i hi => by
      have hh := h.2 i hi
      by_cases hik : i = k
      · subst hik
        rw [if_pos rfl] at hh
        obtain ⟨rfl, hRa⟩ := hh
        refine wpOpIn_mono (fun a' w' hq => ⟨?_, hq⟩) (hR a w hCw hRa)
        have hall := all_listed hw hcl hi
        refine List.eq_nil_iff_forall_not_mem.2 fun j hj => ?_
        obtain ⟨h1, o, ho, _⟩ := mem_ready.1 hj
        have hjs : j < L.length := by
          have := (Array.getElem?_eq_some_iff.1 ho).1
          simpa using this
        by_cases hji : j = i
        · subst hji
          have hii := (mem_ready.1 hi).1
          rcases Nat.lt_or_ge j listed.size with h' | h'
          · simp [h'] at h1
          · simp [Array.getElem?_eq_none h'] at hii
        · have h2 := hall j (by omega)
          rw [getD_set_ne true (Ne.symm hji)] at h1
          rcases Nat.lt_or_ge j listed.size with h' | h'
          · simp [h'] at h1 h2; rw [h1] at h2; cases h2
          · simp [Array.getElem?_eq_none h'] at h1
      · rw [if_neg hik] at hh
        unfold qOp at hh
        unfold wpOpIn
        split
        · rename_i ho
          simp only [ho] at hh
          exact wpAnyIn_of_E hF hdep hcalls hd hk hw hR fuel _ _ _ (hcl.set hi) hCw hh
        · rename_i o ho
          simp only [ho] at hh
          have hm : o ∈ L := by
            have := Array.mem_of_getElem? ho
            simpa using this
          split
          · rename_i hw'
            simp only [hw', if_true] at hh
            exact wpIn_of_quietF hF hdep hcalls (noDefer_at hd hm) hCw (fun a' w' hw'' => wpAnyIn_of_E hF hdep hcalls hd hk hw hR fuel _ a' w' (hcl.set hi) hw'') hh
          · rename_i hw'
            simp only [hw'] at hh
            exact ⟨fun f _ => hF f, wpAnyIn_of_E hF hdep hcalls hd hk hw hR fuel _ _ _ (hcl.set hi) hCw hh⟩⟩

def lastB (L : List Oper) : Bool := !L.isEmpty && noDefer L && Region.noSelect L.toArray && waitedB .any L.toArray (L.length - 1) && lexTo .any L.toArray (L.length - 1) 0 (Array.replicate L.length false)

theorem closed_none (m : Nat) : Closed md ops (Array.replicate m false) := by
  intro j o _ h
  rcases Nat.lt_or_ge j m with h' | h'
  · simp [h'] at h
  · simp [Array.getElem?_eq_none (by simpa using h' : (Array.replicate m false).size ≤ j)] at h

theorem wpIn_last (hF : ∀ f, F.fn f) (hdep : F.depth = none) (hcalls : ∀ m f args w R, Calls P f args w R → CallsIn F m P f args w R) {id : Nat} {Q : Exit → Act → World → Prop} {a : Act} {w : World} {L : List Oper} {o : Oper} (T : List Oper) (hT : T = L ++ [o]) (hB : lastB T = true) (hm : P.follows .mixedOrders = true)
    (h : wpQuiet P T.toArray (fun w' => ∃ n, w' = w.drewN n) (fun a' => ∀ w', (∃ n, w' = w.drewN n) → wpListIn F n P T.toArray Q [o] a' w') L a) : (Code.region id T.toArray true).wpIn F n P Q a w := by
  subst hT
  unfold lastB at hB
  simp only [Bool.and_eq_true, List.length_append, List.length_singleton, Nat.add_sub_cancel] at hB
  obtain ⟨⟨⟨⟨_, h1⟩, h2⟩, h3⟩, h4⟩ := hB
  have hlast : (L ++ [o]).toArray[L.length]? = some o := by simp
  refine wpIn_region_any hm (wpAnyIn_of_E (C := fun w' => ∃ n, w' = w.drewN n) (R := fun a' => ∀ w', (∃ n, w' = w.drewN n) → wpListIn F n P (L ++ [o]).toArray Q [o] a' w') hF hdep hcalls h1 (k := L.length) (by simp) h3 (fun a' w' hw' hr => ?_) _ _ _ _ (closed_none _) ⟨1, rfl⟩ ?_)
  · have := hr w' hw'
    unfold wpOpIn
    rw [hlast]
    exact this
  · have := wpAnyE_lex (P := P) (md := .any) (C := fun w' => ∃ n, w' = w.drewN n) h2 h3 L 0 (Array.replicate (L.length + 1) false) a (closed_none _) (by simp) (fun j hj => by simp [List.getElem?_append_left hj]) h4 h
    simpa using this

def initL : List Oper → List Oper
  | [] => []
  | [_] => []
  | x :: y :: r => x :: initL (y :: r)
def lastL : List Oper → List Oper
  | [] => []
  | [x] => [x]
  | _ :: y :: r => lastL (y :: r)
theorem init_last : ∀ T : List Oper, T ≠ [] → ∃ o, lastL T = [o] ∧ T = initL T ++ [o]
  | [], h => absurd rfl h
  | [x], _ => ⟨x, rfl, rfl⟩
  | x :: y :: r, _ => by
    obtain ⟨o, h1, h2⟩ := init_last (y :: r) (by simp)
    refine ⟨o, h1, ?_⟩
    show x :: y :: r = x :: (initL (y :: r) ++ [o])
    rw [← h2]

theorem wp_last {id : Nat} {Q : Exit → Act → World → Prop} {a : Act} {w : World} {T : List Oper} (hB : lastB T = true) (hm : P.follows .mixedOrders = true)
    (h : wpQuiet P T.toArray (fun w' => ∃ n, w' = w.drewN n) (fun a' => ∀ w', (∃ n, w' = w.drewN n) → wpListIn Fence.wide 0 P T.toArray Q (lastL T) a' w') (initL T) a) : (Code.region id T.toArray true).wp P Q a w := by
  have hne : T ≠ [] := fun e => by subst e; simp [lastB] at hB
  obtain ⟨o, h1, h2⟩ := init_last T hne
  rw [h1] at h
  exact (wpIn_wide (n := 0)).1 (wpIn_last (fun _ => trivial) rfl (fun _ _ _ _ _ h => callsIn_wide.2 h) T h2 hB hm h)
end Go.Proofs.Ytgjjbnnojmighaa
