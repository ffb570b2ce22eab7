import Derived.Test.YthlghokgknkpaaaGreatDoorSwCsTo
import Derived.Deep.OwnRows
import Derived.Deep.RegionWith
import Derived.Laws.MakeOwn
/-
  A region that draws its order, whose operations only read but for one that waits for all others (a store, a call): one walk, in the order of the text, and that one last. No program is named here.
-/
namespace Go.Proofs.YthlghokgknkpaaaGreatDoor
open Go.RowKit

variable {P : Program} {ops : Array Oper} {md : Region.Mode} {C : World → Prop} {F : Fence} {n : Nat}

/-- What has come up has come up behind what it waits for. -/
def Closed (md : Region.Mode) (ops : Array Oper) (listed : Array Bool) : Prop := ∀ j o, ops[j]? = some o → listed.getD j false = true → ∀ e ∈ o.after, Region.binds md e = true → listed.getD e.on false = true

theorem Closed.set {listed : Array Bool} (h : Closed md ops listed) {j : Nat} (hj : j ∈ Region.ready md ops listed) : Closed md ops (listed.setIfInBounds j true) := by
  intro i o ho hi e he hb
  obtain ⟨_, o', ho', hall⟩ := mem_ready.1 hj
  by_cases hij : i = j
  · subst hij
    rw [ho] at ho'
    cases ho'
    exact getD_set_true (hall e he hb)
  · rw [getD_set_ne false (Ne.symm hij)] at hi
    exact getD_set_true (h i o ho hi e he hb)

/-- Each operation ahead of k is waited for by a later one, k at most. -/
def waitedB (md : Region.Mode) (ops : Array Oper) (k : Nat) : Bool :=
  (List.range k).all fun i => (List.range (k + 1)).any fun j => decide (i < j) && ((ops[j]?).map fun o => o.after.any fun e => Region.binds md e && e.on == i).getD false

theorem waited_spec {k : Nat} (h : waitedB md ops k = true) (i : Nat) (hi : i < k) : ∃ j o e, i < j ∧ j ≤ k ∧ ops[j]? = some o ∧ e ∈ o.after ∧ Region.binds md e = true ∧ e.on = i := by
  unfold waitedB at h
  have h1 := List.all_eq_true.1 h i (List.mem_range.2 hi)
  obtain ⟨j, hj, h2⟩ := List.any_eq_true.1 h1
  rw [Bool.and_eq_true] at h2
  obtain ⟨h3, h4⟩ := h2
  cases ho : ops[j]? with
  | none => rw [ho] at h4; cases h4
  | some o =>
    rw [ho] at h4
    simp only [Option.map_some, Option.getD_some, Array.any_eq_true', Bool.and_eq_true, beq_iff_eq] at h4
    obtain ⟨e, he, hb, hon⟩ := h4
    exact ⟨j, o, e, of_decide_eq_true h3, Nat.lt_succ_iff.1 (List.mem_range.1 hj), ho, he, hb, hon⟩

theorem all_listed {k : Nat} {listed : Array Bool} (h : waitedB md ops k = true) (hc : Closed md ops listed) (hk : k ∈ Region.ready md ops listed) : ∀ i, i < k → listed.getD i false = true := by
  have H : ∀ d i, k - i ≤ d → i < k → listed.getD i false = true := by
    intro d
    induction d with
    | zero => intro i h1 h2; omega
    | succ d ih =>
      intro i h1 h2
      obtain ⟨j, o, e, hij, hjk, ho, he, hb, hon⟩ := waited_spec h i h2
      by_cases e1 : j = k
      · subst e1
        obtain ⟨_, o', ho', hall⟩ := mem_ready.1 hk
        rw [ho] at ho'
        cases ho'
        have := hall e he hb
        rwa [hon] at this
      · have := hc j o ho (ih j (by omega) (by omega)) e he hb
        rwa [hon] at this
  exact fun i hi => H (k - i) i (Nat.le_refl _) hi

def wpAnyE (P : Program) (md : Region.Mode) (ops : Array Oper) (C : World → Prop) (k : Nat) (R : Act → Prop) : Nat → Array Bool → Act → Prop
  | 0, _, _ => False
  | fuel + 1, listed, a => Region.ready md ops listed ≠ [] ∧ ∀ i ∈ Region.ready md ops listed, if i = k then fuel = 0 ∧ R a else qOp P ops C i (wpAnyE P md ops C k R fuel (listed.setIfInBounds i true)) a

theorem wpAnyE_first {k : Nat} {R : Act → Prop} {i : Nat} {oi : Oper} {v : Value} (hi : ops[i]? = some oi) (hik : i < k) (hw : waitedB md ops k = true) (hsel : ∀ (j : Nat) (o : Oper) cs b, ops[j]? = some o → o.op ≠ .select cs b) :
    ∀ (fuel : Nat) (listed : Array Bool) (a : Act), Closed md ops listed →
      (∀ j oj, ops[j]? = some oj → j ≠ i → listed.getD j true = false → (∀ e ∈ oj.after, Region.binds md e = true → e.on ≠ i) → oi.apart ops oj = true) →
      i ∈ Region.ready md ops listed → YieldsIn P ops C oi v a →
      wpAnyE P md ops C k R fuel (listed.setIfInBounds i true) (a.put oi.dst v) → wpAnyE P md ops C k R (fuel + 1) listed a := by
  intro fuel
  induction fuel with
  | zero => intro listed a _ _ _ _ H; exact H.elim
  | succ fuel ih =>
    intro listed a hcl hfree hr hy H
    have h0 := (mem_ready.1 hr).1
    refine ⟨fun h => (by rw [h] at hr; cases hr), fun j hj => ?_⟩
    by_cases hji : j = i
    · subst hji
      rw [if_neg (by omega)]
      exact hy.qOp hi H
    · by_cases hjk : j = k
      · subst hjk
        have h1 := all_listed hw hcl hj i hik
        rcases Nat.lt_or_ge i listed.size with h' | h'
        · simp [h'] at h0 h1; rw [h0] at h1; cases h1
        · simp [Array.getElem?_eq_none h'] at h1
      · rw [if_neg hjk]
        have h1 := H.2 j (ready_mono hj hji)
        rw [if_neg hjk] at h1
        obtain ⟨hjun, oj, hoj, hall⟩ := mem_ready.1 hj
        have hnot : ∀ e ∈ oj.after, Region.binds md e = true → e.on ≠ i := fun e he hb heq => by
          have h1 := hall e he hb
          rw [heq] at h1
          rcases Nat.lt_or_ge i listed.size with h' | h'
          · simp [h'] at h0 h1; rw [h0] at h1; cases h1
          · simp [Array.getElem?_eq_none h'] at h1
        have h2 := qOp_put hoj (hfree j oj hoj hji hjun hnot) (fun cs b => hsel i oi cs b hi) (fun cs b => hsel j oj cs b hoj) hy h1
        have hfree' : ∀ k ok, ops[k]? = some ok → k ≠ i → (listed.setIfInBounds j true).getD k true = false →
            (∀ e ∈ ok.after, Region.binds md e = true → e.on ≠ i) → oi.apart ops ok = true := fun k ok hk hki hun hno => by
          refine hfree k ok hk hki ?_ hno
          by_cases hjk : j = k
          · subst hjk; exact hjun
          · rw [getD_set_ne true hjk] at hun; exact hun
        refine qOp_mono (fun a' h3 => ih (listed.setIfInBounds j true) a' (hcl.set hj) hfree' (ready_mono hr (Ne.symm hji)) h3.1 ?_) h2
        rw [Array.setIfInBounds_comm _ _ hji]
        exact h3.2

def lexTo (md : Region.Mode) (ops : Array Oper) : Nat → Nat → Array Bool → Bool
  | 0, k, listed => Region.ready md ops listed == [k]
  | fuel + 1, k, listed => (Region.ready md ops listed).contains k && Region.free md ops listed k && lexTo md ops fuel (k + 1) (listed.setIfInBounds k true)

theorem wpAnyE_lex {R : Act → Prop} {k : Nat} (hs : Region.noSelect ops = true) (hw : waitedB md ops k = true) : ∀ (l : List Oper) (p : Nat) (listed : Array Bool) (a : Act), Closed md ops listed → p + l.length = k → (∀ j, j < l.length → l[j]? = ops[p + j]?) →
    lexTo md ops l.length p listed = true → wpQuiet P ops C R l a → wpAnyE P md ops C k R (l.length + 1) listed a
  | [], p, listed, a, _, hp, _, hB, h => by
    have hB' : Region.ready md ops listed = [p] := by simpa [lexTo] using hB
    have hp' : p = k := by simpa using hp
    refine ⟨by rw [hB']; simp, fun i hi => ?_⟩
    rw [hB'] at hi
    have hi' := List.mem_singleton.1 hi
    rw [if_pos (by omega)]
    exact ⟨rfl, h⟩
  | o :: l, p, listed, a, hcl, hp, hl, hB, h => by
    have h0 : ops[p]? = some o := by simpa using (hl 0 (by simp)).symm
    simp only [List.length_cons, lexTo, Bool.and_eq_true] at hB
    obtain ⟨⟨hr, hf⟩, hB'⟩ := hB
    have hst : qOp P ops C p (wpQuiet P ops C R l) a := by unfold qOp; simp only [h0]; exact h
    obtain ⟨v, hy, hK⟩ := yieldsIn_of_qOp h0 hst
    have hr' : p ∈ Region.ready md ops listed := by simpa using hr
    exact wpAnyE_first h0 (by simp at hp; omega) hw (Region.noSelect_spec hs) (l.length + 1) listed a hcl (Region.free_spec h0 hf) hr' hy
      (wpAnyE_lex hs hw l (p + 1) _ _ (hcl.set hr') (by simp at hp; omega) (fun j hj => by have := hl (j + 1) (by simpa using hj); simpa [Nat.add_assoc, Nat.add_comm 1 j] using this) hB' hK)

theorem wpIn_of_quietF (hF : ∀ f, F.fn f) (hdep : F.depth = none) (hcalls : ∀ m f args w R, Calls P f args w R → CallsIn F m P f args w R) {o : Oper} (hd : ∀ c, o.op ≠ .defer c) {a : Act} {K : Act → Prop} {K' : Act → World → Prop} {Q' : Exit → Act → World → Prop} {w : World} (hw : C w) (h : ∀ a w', C w' → K a → K' a w')
    (hh : o.quiet P a C K) : o.wpIn F n P a w K' Q' := by
  obtain ⟨v, h1, h2⟩ := hh
  have h3 := h1 w hw
  unfold Oper.quietAt at h3
  unfold Oper.wpIn
  refine ⟨fun f _ => hF f, ?_⟩
  rw [Oper.semAt_eq _ _ _ hd]
  generalize (execOp a.eval o).run P w = r at *
  cases r with
  | ok n w' =>
    cases n <;> simp only [Oper.quietUpon] at h3 <;> simp only [Oper.uponIn]
    case value u =>
      obtain ⟨e1, e2⟩ := h3
      rw [e1, e2]
      exact h _ _ hw h2
    case skip =>
      obtain ⟨e1, e2⟩ := h3
      rw [e1, ← e2]
      exact h _ _ hw h2
    case enter f args =>
      obtain ⟨e1, hc⟩ := h3
      rw [e1]
      refine ⟨(fun h => by rw [hdep] at h; cases h), hcalls _ _ _ _ _ (hc.mono fun e w'' ⟨he, hw''⟩ => ?_)⟩
      subst he
      exact h _ _ hw'' h2
  | halt x w' => simp only [Oper.quietUpon] at h3

theorem wpAnyIn_of_E (hF : ∀ f, F.fn f) (hdep : F.depth = none) (hcalls : ∀ m f args w R, Calls P f args w R → CallsIn F m P f args w R) {L : List Oper} (hd : noDefer L = true) {k : Nat} (hk : L.length = k + 1) (hw : waitedB md L.toArray k = true) {R : Act → Prop} {Q' : Exit → Act → World → Prop}
    (hR : ∀ a w, C w → R a → wpOpIn F n P L.toArray Q' k (fun a' w' => Q' .normal a' w') a w) :
    ∀ (fuel : Nat) (listed : Array Bool) (a : Act) (w : World), Closed md L.toArray listed → C w → wpAnyE P md L.toArray C k R fuel listed a → wpAnyIn F n P md L.toArray Q' fuel listed a w
  | 0, _, _, _, _, _, h => h.elim
  | fuel + 1, listed, a, w, hcl, hCw, h => ⟨fun h0 => absurd h0 h.1, fun i hi => by
      have hh := h.2 i hi
      by_cases hik : i = k
      · subst hik
        rw [if_pos rfl] at hh
        obtain ⟨rfl, hRa⟩ := hh
        refine wpOpIn_mono (fun a' w' hq => ⟨?_, hq⟩) (hR a w hCw hRa)
        have hall := all_listed hw hcl hi
        refine List.eq_nil_iff_forall_not_mem.2 fun j hj => ?_
        obtain ⟨h1, o, ho, _⟩ := mem_ready.1 hj
        have hjs : j < L.length := by
          have := (Array.getElem?_eq_some_iff.1 ho).1
          simpa using this
        by_cases hji : j = i
        · subst hji
          have hii := (mem_ready.1 hi).1
          rcases Nat.lt_or_ge j listed.size with h' | h'
          · simp [h'] at h1
          · simp [Array.getElem?_eq_none h'] at hii
        · have h2 := hall j (by omega)
          rw [getD_set_ne true (Ne.symm hji)] at h1
          rcases Nat.lt_or_ge j listed.size with h' | h'
          · simp [h'] at h1 h2; rw [h1] at h2; cases h2
          · simp [Array.getElem?_eq_none h'] at h1
      · rw [if_neg hik] at hh
        unfold qOp at hh
        unfold wpOpIn
        split
        · rename_i ho
          simp only [ho] at hh
          exact wpAnyIn_of_E hF hdep hcalls hd hk hw hR fuel _ _ _ (hcl.set hi) hCw hh
        · rename_i o ho
          simp only [ho] at hh
          have hm : o ∈ L := by
            have := Array.mem_of_getElem? ho
            simpa using this
          split
          · rename_i hw'
            simp only [hw', if_true] at hh
            exact wpIn_of_quietF hF hdep hcalls (noDefer_at hd hm) hCw (fun a' w' hw'' => wpAnyIn_of_E hF hdep hcalls hd hk hw hR fuel _ a' w' (hcl.set hi) hw'') hh
          · rename_i hw'
            simp only [hw'] at hh
            exact ⟨fun f _ => hF f, wpAnyIn_of_E hF hdep hcalls hd hk hw hR fuel _ _ _ (hcl.set hi) hCw hh⟩⟩

/-- What is asked of such a region, by its text. -/
def lastB (L : List Oper) : Bool := !L.isEmpty && noDefer L && Region.noSelect L.toArray && waitedB .any L.toArray (L.length - 1) && lexTo .any L.toArray (L.length - 1) 0 (Array.replicate L.length false)

theorem closed_none (m : Nat) : Closed md ops (Array.replicate m false) := by
  intro j o _ h
  rcases Nat.lt_or_ge j m with h' | h'
  · simp [h'] at h
  · simp [Array.getElem?_eq_none (by simpa using h' : (Array.replicate m false).size ≤ j)] at h

theorem wpIn_last (hF : ∀ f, F.fn f) (hdep : F.depth = none) (hcalls : ∀ m f args w R, Calls P f args w R → CallsIn F m P f args w R) {id : Nat} {Q : Exit → Act → World → Prop} {a : Act} {w : World} {L : List Oper} {o : Oper} (T : List Oper) (hT : T = L ++ [o]) (hB : lastB T = true) (hm : P.follows .mixedOrders = true)
    (h : wpQuiet P T.toArray (fun w' => ∃ n, w' = w.drewN n) (fun a' => ∀ w', (∃ n, w' = w.drewN n) → wpListIn F n P T.toArray Q [o] a' w') L a) : (Code.region id T.toArray true).wpIn F n P Q a w := by
  subst hT
  unfold lastB at hB
  simp only [Bool.and_eq_true, List.length_append, List.length_singleton, Nat.add_sub_cancel] at hB
  obtain ⟨⟨⟨⟨_, h1⟩, h2⟩, h3⟩, h4⟩ := hB
  have hlast : (L ++ [o]).toArray[L.length]? = some o := by simp
  refine wpIn_region_any hm (wpAnyIn_of_E (C := fun w' => ∃ n, w' = w.drewN n) (R := fun a' => ∀ w', (∃ n, w' = w.drewN n) → wpListIn F n P (L ++ [o]).toArray Q [o] a' w') hF hdep hcalls h1 (k := L.length) (by simp) h3 (fun a' w' hw' hr => ?_) _ _ _ _ (closed_none _) ⟨1, rfl⟩ ?_)
  · have := hr w' hw'
    unfold wpOpIn
    rw [hlast]
    exact this
  · have := wpAnyE_lex (P := P) (md := .any) (C := fun w' => ∃ n, w' = w.drewN n) h2 h3 L 0 (Array.replicate (L.length + 1) false) a (closed_none _) (by simp) (fun j hj => by simp [List.getElem?_append_left hj]) h4 h
    simpa using this

def initL : List Oper → List Oper
  | [] => []
  | [_] => []
  | x :: y :: r => x :: initL (y :: r)
def lastL : List Oper → List Oper
  | [] => []
  | [x] => [x]
  | _ :: y :: r => lastL (y :: r)
theorem init_last : ∀ T : List Oper, T ≠ [] → ∃ o, lastL T = [o] ∧ T = initL T ++ [o]
  | [], h => absurd rfl h
  | [x], _ => ⟨x, rfl, rfl⟩
  | x :: y :: r, _ => by
    obtain ⟨o, h1, h2⟩ := init_last (y :: r) (by simp)
    refine ⟨o, h1, ?_⟩
    show x :: y :: r = x :: (initL (y :: r) ++ [o])
    rw [← h2]

/-- In a round. -/
theorem wpIn_round_last {l id : Nat} {Q : Exit → Act → World → Prop} {a : Act} {w : World} {T : List Oper} (hB : lastB T = true) (hm : P.follows .mixedOrders = true)
    (h : wpQuiet P T.toArray (fun w' => ∃ n, w' = w.drewN n) (fun a' => ∀ w', (∃ n, w' = w.drewN n) → wpListIn (Fence.wide.inRound l) n P T.toArray Q (lastL T) a' w') (initL T) a) : (Code.region id T.toArray true).wpIn (Fence.wide.inRound l) n P Q a w := by
  have hne : T ≠ [] := fun e => by subst e; simp [lastB] at hB
  obtain ⟨o, h1, h2⟩ := init_last T hne
  rw [h1] at h
  exact wpIn_last (fun _ => trivial) rfl (fun _ _ _ _ _ h => CallsIn.inRound l (callsIn_wide.2 h)) T h2 hB hm h
/-- At the wide fence. -/
theorem wpIn_wide_last {id : Nat} {Q : Exit → Act → World → Prop} {a : Act} {w : World} {T : List Oper} (hB : lastB T = true) (hm : P.follows .mixedOrders = true)
    (h : wpQuiet P T.toArray (fun w' => ∃ n, w' = w.drewN n) (fun a' => ∀ w', (∃ n, w' = w.drewN n) → wpListIn Fence.wide n P T.toArray Q (lastL T) a' w') (initL T) a) : (Code.region id T.toArray true).wpIn Fence.wide n P Q a w := by
  have hne : T ≠ [] := fun e => by subst e; simp [lastB] at hB
  obtain ⟨o, h1, h2⟩ := init_last T hne
  rw [h1] at h
  exact wpIn_last (fun _ => trivial) rfl (fun _ _ _ _ _ h => callsIn_wide.2 h) T h2 hB hm h
/-- In a plain walk. -/
theorem wp_last {id : Nat} {Q : Exit → Act → World → Prop} {a : Act} {w : World} {T : List Oper} (hB : lastB T = true) (hm : P.follows .mixedOrders = true)
    (h : wpQuiet P T.toArray (fun w' => ∃ n, w' = w.drewN n) (fun a' => ∀ w', (∃ n, w' = w.drewN n) → wpListIn Fence.wide 0 P T.toArray Q (lastL T) a' w') (initL T) a) : (Code.region id T.toArray true).wp P Q a w := by
  have hne : T ≠ [] := fun e => by subst e; simp [lastB] at hB
  obtain ⟨o, h1, h2⟩ := init_last T hne
  rw [h1] at h
  exact (wpIn_wide (n := 0)).1 (wpIn_last (fun _ => trivial) rfl (fun _ _ _ _ _ h => callsIn_wide.2 h) T h2 hB hm h)
end Go.Proofs.YthlghokgknkpaaaGreatDoor

/-
  Contract: Map[string].place.
-/
namespace Go.Proofs.YthlghokgknkpaaaGreatDoor
open Go.RowKit Go.Shelf

set_option maxRecDepth 100000 in
set_option maxHeartbeats 4000000 in
theorem place_any_s (b bw bs : Nat) (M : SM) (key : ByteArray) (sv : ByteArray) (w : World) (hT : Tab w) (h : Lies 74 71 w b bw bs M) (hF : M.Fit) (hk : key.size < 140737488355328)
    (ht : ∀ g i, g < M.ws.length → i < 8 → byteN (M.w g) i = 254 → 1 ≤ M.t) :
    Calls Tryz.prog 37 #[.pointer (some ⟨b, 0, none⟩), .string key, .string sv] w fun e w' => (∃ u, e = .returned u) ∧ Lies 74 71 w' b bw bs (M.place key (.string sv)) ∧ But [b, bw, bs] w w' := by
  obtain ⟨cw, cs, c0, c1, c2, c3, c4, c5, hcw, hcs⟩ := h.cells
  have hr := good_range hF.good
  have hlt := h.lt
  have hfew := hF.few
  obtain ⟨H, hH0, hH1, hgs, hhash⟩ := hash_at_s b bw bs M key hF hk
  refine (callsIn_wide (n := 9)).1 ?_
  refine callsIn_of_wp_marks Tryz.func37 rfl trivial ?_ rfl
  simp only [Tryz.ntmps37, List.size_toArray, List.length_cons, List.length_nil, Nat.reduceAdd, Nat.reduceSub, Array.replicate_succ, Array.replicate_zero, List.push_toArray, List.append_toArray, List.nil_append, List.cons_append]
  obtain ⟨hBq, hzq, q0, q1, q2⟩ := three_boxes w (.pointer (some ⟨b, 0, none⟩)) (.string key) (.string sv) 28 9 9
  generalize hX0 : ((w.alloc (.cells #[.pointer (some ⟨b, 0, none⟩)] 28)).alloc (.cells #[.string key] 9)).alloc (.cells #[.string sv] 9) = X0 at q0 q1 q2 hBq hzq
  have e0 := q0.cell
  have e1 := q1.cell
  gi_wp2
  refine ⟨trivial, ?_⟩
  refine (callsIn_wide.2 (hhash _ (h.below hBq (Nat.le_refl _)))).mono ?_
  rintro e W1 ⟨rfl, hB1⟩
  replace q0 : Boxed W1 _ _ _ := (hB1.block _ (by omega)).trans q0
  replace q1 : Boxed W1 _ _ _ := (hB1.block _ (by omega)).trans q1
  replace q2 : Boxed W1 _ _ _ := (hB1.block _ (by omega)).trans q2
  have hz1 : w.heap.size + 3 ≤ W1.heap.size := by have := hB1.size; omega
  replace hB1 : Below w.heap.size w W1 := hBq.trans (hB1.mono (by omega))
  clear e0 e1 hBq hzq hX0 hhash X0
  have q3 := Boxed.new W1 5 (.int .u8 (M.what key : Nat))
  replace q0 := q0.alloc (.cells #[.int .u8 (M.what key : Nat)] 5)
  replace q1 := q1.alloc (.cells #[.int .u8 (M.what key : Nat)] 5)
  replace q2 := q2.alloc (.cells #[.int .u8 (M.what key : Nat)] 5)
  have hB2 : Below w.heap.size w (W1.alloc (.cells #[.int .u8 (M.what key : Nat)] 5)) := hB1.alloc (by omega) _
  have hz2 : (W1.alloc (.cells #[.int .u8 (M.what key : Nat)] 5)).heap.size = W1.heap.size + 1 := by simp
  generalize hX2 : W1.alloc (.cells #[.int .u8 (M.what key : Nat)] 5) = X2 at q0 q1 q2 q3 hB2 hz2
  have e0 := q0.cell
  have k2 := (hB2.cell (p := ⟨b, 2, none⟩) hlt.1).trans c2
  gi_wp2_with (refine ⟨trivial, ?_⟩; gi_at_call 65; refine (callsIn_wide.2 (seq_any H (M.ws.length : Int) _ (by omega) (by omega))).mono ?_; rw [hz2]; rintro e W5 ⟨rfl, hB5, hz5, s0, s1, s2⟩)
  generalize W1.heap.size = b2 at *
  replace q0 : Boxed W5 _ _ _ := (hB5.block _ (by omega)).trans q0
  replace q1 : Boxed W5 _ _ _ := (hB5.block _ (by omega)).trans q1
  replace q2 : Boxed W5 _ _ _ := (hB5.block _ (by omega)).trans q2
  replace q3 : Boxed W5 _ _ _ := (hB5.block _ (by omega)).trans q3
  replace hB2 := hB2.trans (hB5.mono (by omega))
  clear hB5 e0 k2 hz2 hX2 hB1 X2
  refine range_seqV (m := 7) (gf := 99) (fb := #[]) (lb := #[.pointer (some ⟨b2 + 1 + 2, 0, none⟩), .pointer (some ⟨b2 + 1, 0, none⟩), .pointer (some ⟨b2 + 1 + 1, 0, none⟩)]) rfl (enters_of Tryz.func99 (by kernel_rfl) rfl)
    (seq1_seq (b2 + 1) H (M.ws.length : Int) hH0 hH1 (by omega) (by omega) W5 (by omega) s0 s1 s2).seqV (by omega) (fun _ => rfl)
    (fun B pre X => Boxed X w.heap.size 28 (.pointer (some ⟨b, 0, none⟩)) ∧ Boxed X (w.heap.size + 1) 9 (.string key) ∧ Boxed X (w.heap.size + 2) 9 (.string sv) ∧ Boxed X b2 5 (.int .u8 (M.what key : Nat)) ∧ Below w.heap.size w X ∧
      ∀ rest, (M.gs key).map (fun g : Nat => (g : Int)) = pre ++ rest → M.spot (M.gs key) = M.spot (rest.map Int.toNat))
    (fun B c pre X => c = .ret ∧ Lies 74 71 X b bw bs (M.place key (.string sv)) ∧ But [b, bw, bs] w X)
    ?hI ?hIx ?h0 ?ab ?done ?stop
  case hI =>
    rintro B pre X Y hB ⟨d0, d1, d2, d3, d4, d5⟩ ho
    exact ⟨ho.box d0 (.inl (by omega)), ho.box d1 (.inl (by omega)), ho.box d2 (.inl (by omega)), ho.box d3 (.inl (by omega)), d4.trans (ho.below (by omega) d4.size), d5⟩
  case hIx =>
    rintro B c pre X Y hB ⟨rfl, d1, d2⟩ ho
    have hX := d2.size
    exact ⟨rfl, d1.outside ho (by omega), d2.outside ho (by omega)⟩
  case h0 =>
    intro X hX _
    refine ⟨(hX.block _ (by omega)).trans q0, (hX.block _ (by omega)).trans q1, (hX.block _ (by omega)).trans q2, (hX.block _ (by omega)).trans q3, hB2.trans (hX.mono (by omega)), fun rest hrest => ?_⟩
    rw [List.nil_append] at hrest
    rw [← hrest, List.map_map]
    congr 1
    exact (List.map_id _).symm
  case ab =>
    apply Exists.intro
    constructor
    · intro l x X K hK
      have hsem := @Oper.semAt_some l
      gi_wp2
      exact hK
    · rintro l B pre x X hB hBX hpre ⟨d0, d1, d2, d3, d4, d5⟩
      have hsem := @Oper.semAt_some l
      rw [hgs] at hpre
      obtain ⟨gx, hgx, rfl⟩ := List.mem_map.1 (hpre.subset (List.mem_append_right _ (List.mem_singleton.2 rfl)))
      have hgl := SM.gs_lt hF key gx hgx
      obtain ⟨rest, hrest⟩ := hpre
      have hfind : Hid (M.spot (M.gs key) = M.spot (gx :: rest.map Int.toNat)) := by
        have := d5 ((gx : Int) :: rest) (by rw [← hrest]; simp)
        rw [List.map_cons, Int.toNat_natCast] at this
        exact this
      have hd6 : Hid (∀ rest' : List Int, (M.gs key).map (fun g : Nat => (g : Int)) = (pre ++ [(gx : Int)]) ++ rest' → rest' = rest) := fun rest' he => by
        rw [← hrest] at he
        exact (List.append_cancel_left he).symm
      clear hrest d5
      have hL := h.below d4 (Nat.le_refl _)
      have hTX : Tab X := hT.below d4 (by have := hT.1; omega)
      obtain ⟨dw, ds, _, _, k2, k3, k4, k5, hdw, hds⟩ := hL.cells
      have kw := hL.word gx hgl
      have hwl := hF.words gx hgl
      have hwhat := M.what_lt key
      have ht' := ht gx
      have e0 := d0.cell
      generalize hwd0 : M.w gx = wd at *
      have hwd : Hid (M.w gx = wd) := hwd0
      clear hwd0
      by_cases hfr : freeN wd = 0
      · have hnone := free_none hfr
        gi_wp2_with (refine ⟨trivial, ?_⟩; gi_at_call 70; refine (CallsIn.inRound l (callsIn_wide.2 (free_any wd _ hwl))).mono ?_; rintro e X ⟨rfl, rfl⟩; rw [hfr])
        refine ⟨Keeps.refl _ _ _, Keeps.refl _ _ _, d0, d1, d2, d3, d4, fun rest' he => ?_⟩
        rw [hd6.out rest' he, hfind.out, SM.spot, hwd.out, hnone]
      · obtain ⟨hsome, hf8⟩ := free_some hfr
        have hfl := freeN_lt wd
        have hfr' : (freeN wd : Int) ≠ 0 := by omega
        have hpl : Hid (M.place key (.string sv) = M.lay key (.string sv) gx (firstN (freeN wd))) := by
          show M.place key (.string sv) = _
          unfold SM.place
          rw [hfind.out, SM.spot, hwd.out, hsome]
        have hfirst := first_any (freeN wd) X hTX hfl
        clear hsome hfr
        gi_wp2_with (refine ⟨trivial, ?_⟩; gi_at_call 70; refine (CallsIn.inRound l (callsIn_wide.2 (free_any wd _ hwl))).mono ?_; rintro e X ⟨rfl, rfl⟩)
        refine ⟨trivial, ?_⟩
        refine (CallsIn.inRound l (callsIn_wide.2 hfirst)).mono ?_
        rintro e X ⟨rfl, rfl⟩
        generalize firstN (freeN wd) = f at *
        have hbyte := byteN_lt wd f
        have hne := hL.ne
        have hdel : byteN wd f = 254 → 1 ≤ M.t := ht' f hgl hf8
        clear hfirst ht' hgx hd6 hfind
        obtain ⟨M1, hM1⟩ : ∃ M1 : SM, M1 = { M with t := if byteN wd f = 254 then M.t - 1 else M.t } := ⟨_, rfl⟩
        have hM1w : M1.ws = M.ws := by rw [hM1]
        have hM1s : M1.ss = M.ss := by rw [hM1]
        have hM1n : M1.n = M.n := by rw [hM1]
        have hstep : ∃ X1, X1 = (if byteN wd f = 254 then X.setCell ⟨b, 5, none⟩ (.int .i64 ((M.t - 1 : Nat) : Int)) else X) ∧ Lies 74 71 X1 b bw bs M1 ∧
            Boxed X1 w.heap.size 28 (.pointer (some ⟨b, 0, none⟩)) ∧ Boxed X1 (w.heap.size + 1) 9 (.string key) ∧ Boxed X1 (w.heap.size + 2) 9 (.string sv) ∧ Boxed X1 b2 5 (.int .u8 (M.what key : Nat)) ∧
            But [b, bw, bs] w X1 ∧ Keeps (b2 + 1) (b2 + 1 + 3) X X1 ∧ Keeps W5.heap.size B X X1 := by
          refine ⟨_, rfl, ?_⟩
          have hb4 : But [b, bw, bs] w X := But.of_below d4 (Nat.le_refl _)
          by_cases hx : byteN wd f = 254
          · rw [if_pos hx]
            rw [if_pos hx] at hM1
            have hn : ∀ k, k ≠ b → (X.setCell ⟨b, 5, none⟩ (.int .i64 ((M.t - 1 : Nat) : Int))).heap[k]? = X.heap[k]? := fun k hk => Below.heap_setCell _ _ _ _ hk
            refine ⟨by rw [hM1]; exact hL.setT _, (hn _ (by omega)).trans d0, (hn _ (by omega)).trans d1, (hn _ (by omega)).trans d2, (hn _ (by omega)).trans d3, hb4.setCell (p := ⟨b, 5, none⟩) (.inl (by simp)) _, (Keeps.refl _ _ _).setCell (p := ⟨b, 5, none⟩) (.inl (by show b < _; omega)) _, (Keeps.refl _ _ _).setCell (p := ⟨b, 5, none⟩) (.inl (by show b < _; omega)) _⟩
          · rw [if_neg hx]
            rw [if_neg hx] at hM1
            exact ⟨by rw [hM1]; exact hL, d0, d1, d2, d3, hb4, Keeps.refl _ _ _, Keeps.refl _ _ _⟩
        obtain ⟨X1, hX1, L1, p0, p1, p2, p3, hbut, hkA, hkB⟩ := hstep
        have hlay : Hid (M.lay key (.string sv) gx f = { M1 with ws := M1.ws.set gx (putN wd f (M.what key)), ss := M1.ss.set (8 * gx + f) (key, .string sv), n := M1.n + 1 }) := by
          show M.lay key (.string sv) gx f = _
          unfold SM.lay
          rw [hwd.out, hM1]
        obtain ⟨w1, s1', _, _, m2, m3, m4, m5, hw1, hs1⟩ := L1.cells
        rw [hM1w] at m2 hw1
        rw [hM1s] at m3 hs1
        rw [hM1n] at m4
        have z0 := p0.cell
        have z1 := p1.cell
        have z2 := p2.cell
        have z3 := p3.cell
        have fw := L1.freeW gx
        have kw1 : X1.cell? ⟨bw, gx, none⟩ = some (.int .u64 (wd : Int)) := by
          have h1 := L1.word gx (by rw [hM1w]; exact hgl)
          have h2 : M1.w gx = M.w gx := by unfold SM.w; rw [hM1w]
          rw [h2, hwd.out] at h1
          exact h1
        have hi1 : 8 * (gx : Int) + (f : Nat) < M.ss.length := by have := hF.slots; omega
        have hi2 : 8 * gx + f < M1.ss.length := by rw [hM1s]; have := hF.slots; omega
        have ks1 := L1.key _ hi2
        have ks2 := L1.val _ hi2
        have fs1 := L1.freeS ((8 * gx + f) * 2)
        have fs2 := L1.freeS ((8 * gx + f) * 2 + 1)
        have fn1 := L1.free 4
        have hget := fun W => get_at wd f rfl hf8 W hwl
        by_cases hx : byteN wd f = 254
        · rw [if_pos hx] at hX1
          have h1t := hdel hx
          have hti : (M.t : Int) - 1 = ((M.t - 1 : Nat) : Int) := by omega
          have f5 := hL.free 5
          gi_wp2_with (refine ⟨trivial, ?_⟩; gi_at_call 71; refine (CallsIn.inRound l (callsIn_wide.2 (hget _))).mono ?_; rintro e X ⟨rfl, rfl⟩; rw [hx])
          rw [← hX1]
          clear hX1 f5 hti h1t kw k2 k3 k4 k5 e0 hTX
          refine wpIn_round_last (by kernel_rfl) (by kernel_rfl) ?_
          dsimp only [initL, lastL]
          repeat (go_big_quiet_step ((go_at_call 42; exact Calls.quiet_of (set_any wd (f : Int) f (M.what key) (by omega) _ hwl (by omega)))))
          refine wpQuiet_nil ?_
          rintro _ ⟨nq, rfl⟩
          gi_wp2
          refine wpIn_round_last (by kernel_rfl) (by kernel_rfl) ?_
          dsimp only [initL, lastL]
          repeat (go_big_quiet_step (fail))
          refine wpQuiet_nil ?_
          rintro _ ⟨nr, rfl⟩
          gi_wp2
          rw [show (M.n : Int) + 1 = ((M1.n + 1 : Nat) : Int) by rw [hM1n]; omega]
          refine ⟨?_, ?_, rfl, ?_, ?_⟩
          · exact ((((((hkA.drewN nq).setCell (p := ⟨bw, gx, none⟩) (.inl (by show bw < _; omega)) _).drewN nr).setCell (p := ⟨bs, (8 * gx + f) * 2, none⟩) (.inl (by show bs < _; omega)) _).setCell (p := ⟨bs, (8 * gx + f) * 2 + 1, none⟩) (.inl (by show bs < _; omega)) _).setCell (p := ⟨b, 4, none⟩) (.inl (by show b < _; omega)) _)
          · exact ((((((hkB.drewN nq).setCell (p := ⟨bw, gx, none⟩) (.inl (by show bw < _; omega)) _).drewN nr).setCell (p := ⟨bs, (8 * gx + f) * 2, none⟩) (.inl (by show bs < _; omega)) _).setCell (p := ⟨bs, (8 * gx + f) * 2 + 1, none⟩) (.inl (by show bs < _; omega)) _).setCell (p := ⟨b, 4, none⟩) (.inl (by show b < _; omega)) _)
          · rw [hpl.out, hlay.out]
            exact ((((L1.drewN nq).setW gx (putN wd f (M.what key))).drewN nr).setS (8 * gx + f) key (.string sv)).setN (M1.n + 1)
          · exact ((((((hbut.drewN nq).setCell (p := ⟨bw, gx, none⟩) (.inl (by simp)) _).drewN nr).setCell (p := ⟨bs, (8 * gx + f) * 2, none⟩) (.inl (by simp)) _).setCell (p := ⟨bs, (8 * gx + f) * 2 + 1, none⟩) (.inl (by simp)) _).setCell (p := ⟨b, 4, none⟩) (.inl (by simp)) _)
        · rw [if_neg hx] at hX1
          have hx' : (byteN wd f : Int) ≠ 254 := by omega
          subst hX1
          have hX1 : X1 = X1 := rfl
          gi_wp2_with (refine ⟨trivial, ?_⟩; gi_at_call 71; refine (CallsIn.inRound l (callsIn_wide.2 (hget _))).mono ?_; rintro e X2 ⟨rfl, rfl⟩)
          clear hX1 kw k2 k3 k4 k5 e0 hTX
          refine wpIn_round_last (by kernel_rfl) (by kernel_rfl) ?_
          dsimp only [initL, lastL]
          repeat (go_big_quiet_step ((go_at_call 42; exact Calls.quiet_of (set_any wd (f : Int) f (M.what key) (by omega) _ hwl (by omega)))))
          refine wpQuiet_nil ?_
          rintro _ ⟨nq, rfl⟩
          gi_wp2
          refine wpIn_round_last (by kernel_rfl) (by kernel_rfl) ?_
          dsimp only [initL, lastL]
          repeat (go_big_quiet_step (fail))
          refine wpQuiet_nil ?_
          rintro _ ⟨nr, rfl⟩
          gi_wp2
          rw [show (M.n : Int) + 1 = ((M1.n + 1 : Nat) : Int) by rw [hM1n]; omega]
          refine ⟨?_, ?_, rfl, ?_, ?_⟩
          · exact ((((((hkA.drewN nq).setCell (p := ⟨bw, gx, none⟩) (.inl (by show bw < _; omega)) _).drewN nr).setCell (p := ⟨bs, (8 * gx + f) * 2, none⟩) (.inl (by show bs < _; omega)) _).setCell (p := ⟨bs, (8 * gx + f) * 2 + 1, none⟩) (.inl (by show bs < _; omega)) _).setCell (p := ⟨b, 4, none⟩) (.inl (by show b < _; omega)) _)
          · exact ((((((hkB.drewN nq).setCell (p := ⟨bw, gx, none⟩) (.inl (by show bw < _; omega)) _).drewN nr).setCell (p := ⟨bs, (8 * gx + f) * 2, none⟩) (.inl (by show bs < _; omega)) _).setCell (p := ⟨bs, (8 * gx + f) * 2 + 1, none⟩) (.inl (by show bs < _; omega)) _).setCell (p := ⟨b, 4, none⟩) (.inl (by show b < _; omega)) _)
          · rw [hpl.out, hlay.out]
            exact ((((L1.drewN nq).setW gx (putN wd f (M.what key))).drewN nr).setS (8 * gx + f) key (.string sv)).setN (M1.n + 1)
          · exact ((((((hbut.drewN nq).setCell (p := ⟨bw, gx, none⟩) (.inl (by simp)) _).drewN nr).setCell (p := ⟨bs, (8 * gx + f) * 2, none⟩) (.inl (by simp)) _).setCell (p := ⟨bs, (8 * gx + f) * 2 + 1, none⟩) (.inl (by simp)) _).setCell (p := ⟨b, 4, none⟩) (.inl (by simp)) _)
  case done =>
    rintro B X hB ⟨d0, d1, d2, d3, d4, d5⟩ hD
    have hsp := d5 [] (by rw [hgs, List.append_nil])
    have hpl : M.place key (.string sv) = M := by
      unfold SM.place
      rw [hsp]
      rfl
    have hpl' : Hid (M.place key (.string sv) = M) := hpl
    clear hpl hsp
    gi_wp2
    refine ⟨by simp, .inl ⟨_, _, rfl, run_takeDeferred hD, ?_⟩⟩
    have hb := fun o => d4.trans ((Outside.putObj (B := 0) o (Nat.le_refl _) hD rfl).below (C := w.heap.size) (by omega) d4.size)
    exact ⟨_, results_none rfl _ _ _, ⟨_, rfl⟩, by rw [hpl'.out]; exact h.below (hb _) (Nat.le_refl _), But.of_below (hb _) (Nat.le_refl _)⟩
  case stop =>
    rintro B c pre X hB hpre ⟨rfl, d1, d2⟩ hD
    gi_wp2
    refine ⟨by simp, .inl ⟨_, _, rfl, run_takeDeferred hD, ?_⟩⟩
    exact ⟨_, results_none rfl _ _ _, ⟨_, rfl⟩, d1.outside (Outside.putObj (B := 0) _ (Nat.le_refl _) hD rfl) (by omega), d2.putObj (.inr (by omega)) _⟩
end Go.Proofs.YthlghokgknkpaaaGreatDoor

/-
  Contracts: swiss.empty[string], New[string].
-/
namespace Go.Proofs.YthlghokgknkpaaaGreatDoor
open Go.RowKit Go.Shelf

theorem infoW_s : (Tryz.prog.info? 22).map (fun i => (i.zero, i.size, i.bytes)) = some (some (.int .u64 0), 1, 8) := by kernel_rfl
theorem infoS_s : (Tryz.prog.info? 71).map (fun i => (i.zero, i.size, i.bytes)) = some (some (.agg #[.string ⟨#[]⟩, (.string ⟨#[]⟩)]), 2, 32) := by kernel_rfl

def SM.half_s (k0 k1 : Int) (z : Value) (g j : Nat) : SM := ⟨k0, k1, List.replicate j noneW ++ List.replicate (g - j) 0, List.replicate (8 * g) (ByteArray.empty, z), 0, 0⟩

set_option maxRecDepth 100000 in
set_option maxHeartbeats 4000000 in
theorem empty_any_s (k0 k1 : Int) (g : Nat) (hg : isGood (g : Int) = true) (w : World) (h0 : 0 < w.heap.size) :
    Calls Tryz.prog 30 #[.agg #[.int .u64 k0, .int .u64 k1], .int .i64 (g : Int)] w fun e w' => ∃ b bw bs, e = .returned (.pointer (some ⟨b, 0, none⟩)) ∧
      Lies 74 71 w' b bw bs (SM.empty k0 k1 (.string ⟨#[]⟩) g) ∧ w.heap.size ≤ b ∧ w.heap.size ≤ bw ∧ w.heap.size ≤ bs ∧ Below w.heap.size w w' := by
  have hr := good_range hg
  obtain ⟨i1, hi1, hz1, hs1, hb1⟩ := info_parts infoW_s
  obtain ⟨i2, hi2, hz2, hs2, hb2⟩ := info_parts infoS_s
  have hmk1 := fun W : World => run_make (P := Tryz.prog) W 59 22 i1 _ Tryz.underlying59 hi1 hz1 .i64 .i64 (g : Int) (g : Int) (by omega) (by omega) (by rw [hb1]; omega) (by omega)
  have hmk2 := fun W : World => run_make (P := Tryz.prog) W 72 71 i2 _ Tryz.underlying72 hi2 hz2 .i64 .i64 (8 * (g : Int)) (8 * (g : Int)) (by omega) (by omega) (by rw [hb2]; omega) (by omega)
  rw [hs1] at hmk1
  rw [hs2] at hmk2
  simp only [Int.toNat_natCast, show (8 * (g : Int)).toNat = 8 * g by omega, Nat.mul_one, Value.cells] at hmk1 hmk2
  have hA1 : (madeCells #[.int .u64 0] g).toList = List.replicate g (.int .u64 0) := toList_madeCells_one _ _
  have hA2 : (madeCells #[.string ⟨#[]⟩, (.string ⟨#[]⟩)] (8 * g * 2)).toList = cellsS (List.replicate (8 * g) (ByteArray.empty, (.string ⟨#[]⟩))) := made_two _ _ _ _ rfl
  have hA3 : (madeCells #[.int .u64 0] g).size = g := size_madeCells _ _
  have hA4 : (madeCells #[.string ⟨#[]⟩, (.string ⟨#[]⟩)] (8 * g * 2)).size = 8 * g * 2 := size_madeCells _ _
  generalize madeCells #[.int .u64 0] g = A1 at *
  generalize madeCells #[.string ⟨#[]⟩, (.string ⟨#[]⟩)] (8 * g * 2) = A2 at *
  clear hi1 hi2 hz1 hz2 hs1 hs2 hb1 hb2 i1 i2
  go_enter Tryz.func30, Tryz.ntmps30
  go_wp2
  refine Code.wp_mono (Q := fun e a Y => e = .normal ∧ ∃ b bw bs : Nat, a = { tmps := #[.agg #[.int .u64 k0, .int .u64 k1], .int .i64 (g : Int), .pointer (some ⟨w.heap.size, 0, none⟩), undef, .pointer none, .pointer (some ⟨b, 0, none⟩), undef, .agg #[.int .u64 k0, .int .u64 k1], .int .i64 (g : Int), .slice (some ⟨bw, 0, none⟩) g g, .int .i64 (g : Int), .int .i64 (8 * (g : Int)), .slice (some ⟨bs, 0, none⟩) (8 * g) (8 * g), .agg #[.int .u64 k0, .int .u64 k1, .slice (some ⟨bw, 0, none⟩) g g, .slice (some ⟨bs, 0, none⟩) (8 * g) (8 * g), .int .i64 0, .int .i64 0], .pointer (some ⟨b, 0, none⟩), undef, undef, undef, undef, undef, undef, undef, undef, undef, undef, undef, undef, undef, undef, undef, undef], defers := [] } ∧
    Y.heap[b]? = some (.cells #[.int .u64 k0, .int .u64 k1, .slice (some ⟨bw, 0, none⟩) g g, .slice (some ⟨bs, 0, none⟩) (8 * g) (8 * g), .int .i64 0, .int .i64 0] 74 (0, 0)) ∧ Y.heap[bw]? = some (.cells A1 22 (0, 0)) ∧ Y.heap[bs]? = some (.cells A2 71 (0, 0)) ∧
    w.heap.size ≤ b ∧ w.heap.size ≤ bw ∧ w.heap.size ≤ bs ∧ b ≠ bw ∧ b ≠ bs ∧ bw ≠ bs ∧ Below w.heap.size w Y) ?_ ?_
  · rintro e a Y ⟨rfl, b, bw, bs, rfl, hb, hw, hs, g1, g2, g3, n1, n2, n3, hbel⟩
    have hlie : Lies 74 71 Y b bw bs (SM.half_s k0 k1 (.string ⟨#[]⟩) g 0) := by
      refine ⟨⟨g, 8 * g, ?_, ⟨?_, .inr ⟨bw, g, A1, ?_, Nat.zero_le _, hw, ?_, ?_, by rw [hA3, Nat.mul_one], ?_⟩⟩, ⟨?_, .inr ⟨bs, 8 * g, A2, ?_, Nat.zero_le _, hs, ?_, ?_, hA4, ?_⟩⟩⟩, ⟨n1, n2, n3⟩, by omega⟩
      · simp only [SM.half_s, List.replicate_zero, List.nil_append, List.length_replicate, Nat.sub_zero]
        exact hb
      · rw [cellsW_len, Nat.mul_one]
      · simp [SM.half_s]
      · simp [SM.half_s]
      · unfold maxLen; omega
      · simp only [SM.half_s, List.replicate_zero, List.nil_append, List.length_replicate, Nat.sub_zero, Nat.mul_one]
        rw [hA1, List.take_of_length_le (by simp)]
        simp [cellsW]
      · rw [cellsS_len]
      · simp [SM.half_s]
      · simp [SM.half_s]
      · unfold maxLen; omega
      · simp only [SM.half_s, List.length_replicate]
        rw [hA2, List.take_of_length_le (by rw [cellsS_len, List.length_replicate]; omega)]
    have hlw : ∀ j, j ≤ g → (SM.half_s k0 k1 (.string ⟨#[]⟩) g j).ws.length = g := fun j hj => by simp [SM.half_s]; omega
    obtain ⟨cw, cs, _, _, c2, _, _, _, _, _⟩ := hlie.cells
    rw [hlw 0 (by omega)] at c2
    clear hb hw hs hA1 hA2 hA3 hA4 hmk1 hmk2
    go_wp2
    go_loopw [20] (fun t wr => ∃ j : Nat, j ≤ g ∧ t = .int .i64 (j : Nat) ∧ Lies 74 71 wr b bw bs (SM.half_s k0 k1 (.string ⟨#[]⟩) g j) ∧ Below w.heap.size w wr) (fun t _ => g - (intOf t).toNat)
    case atStart => exact ⟨0, by omega, rfl, hlie, hbel⟩
    case round =>
      obtain ⟨j, hj, rfl, hl, hbr⟩ := hrel
      obtain ⟨cw', cs', _, _, c2', _, _, _, _, _⟩ := hl.cells
      rw [hlw j hj] at c2'
      by_cases hlt : j < g
      · have kw := hl.word j (by rw [hlw j hj]; exact hlt)
        have fw := hl.freeW j
        have hset := hl.setW j noneW
        have hnext : Hid ({ SM.half_s k0 k1 (.string ⟨#[]⟩) g j with ws := (SM.half_s k0 k1 (.string ⟨#[]⟩) g j).ws.set j noneW } = SM.half_s k0 k1 (.string ⟨#[]⟩) g (j + 1)) := by
          show _ = _
          unfold SM.half_s
          congr 1
          rw [show g - j = (g - (j + 1)) + 1 by omega, List.replicate_succ, List.set_append_right _ _ (by simp), List.length_replicate, Nat.sub_self, List.set_cons_zero, List.replicate_succ', List.append_assoc]
          rfl
        rw [hnext.out] at hset
        go_wp2
        go_roundw
        case rel => exact ⟨j + 1, by omega, by simp, hset, hbr.setCell (p := ⟨bw, j, none⟩) g2 _⟩
        case measure => simp only [intOf]; omega
      · obtain rfl : j = g := by omega
        have he : SM.half_s k0 k1 (.string ⟨#[]⟩) j j = SM.empty k0 k1 (.string ⟨#[]⟩) j := by
          unfold SM.half_s SM.empty
          rw [Nat.sub_self, List.replicate_zero, List.append_nil]
        rw [he] at hl
        clear he hlw hlie
        go_wp2
        go_ret
        exact ⟨b, bw, bs, rfl, hl, g1, g2, g3, hbr⟩
  · have hN : (w.alloc (.cells #[.int .u64 k0, .int .u64 k1] 24)).heap.size = w.heap.size + 1 := by simp
    have hU : Below w.heap.size w (w.alloc (.cells #[.int .u64 k0, .int .u64 k1] 24)) := (Below.refl _ _).alloc (Nat.le_refl _) _
    have h3 := fun o1 o2 o3 => three_new (w.alloc (.cells #[.int .u64 k0, .int .u64 k1] 24)) (w.heap.size + 1) hN o1 o2 o3
    go_region
    all_goals first
      | exact ⟨rfl, w.heap.size + 1 + 1 + 1, w.heap.size + 1, w.heap.size + 1 + 1, rfl, (h3 _ _ _).2.2.1, (h3 _ _ _).1, (h3 _ _ _).2.1, by omega, by omega, by omega, by omega, by omega, by omega, (hU.trans ((h3 _ _ _).2.2.2.mono (by omega))).drew⟩
      | exact ⟨rfl, w.heap.size + 1 + 1 + 1, w.heap.size + 1 + 1, w.heap.size + 1, rfl, (h3 _ _ _).2.2.1, (h3 _ _ _).2.1, (h3 _ _ _).1, by omega, by omega, by omega, by omega, by omega, by omega, (hU.trans ((h3 _ _ _).2.2.2.mono (by omega))).drew⟩
end Go.Proofs.YthlghokgknkpaaaGreatDoor
