import Derived.Deep.Quiet
import Derived.OrdersIn
import Derived.RangeFuncCalls
import Derived.BigQuiet
import Derived.Deep.QuietTactic
import Derived.Test.YthlghokgknkpaaaGreatDoorRngTo
import Derived.Test.YthlghokgknkpaaaGreatDoorSwBTo
import Derived.WalkSmall
import Derived.MapKept
/-
  A region that draws its order and only reads, in a round of a range over a function: one walk, in the order of the text. No program is named here.
-/
namespace Go.Proofs.YthlghokgknkpaaaGreatDoor
open Go.RowKit

def noDefer (L : List Oper) : Bool := L.all fun o => match o.op with
  | .defer _ => false
  | _ => true
theorem noDefer_at {L : List Oper} (h : noDefer L = true) {o : Oper} (ho : o ∈ L) : ∀ c, o.op ≠ .defer c := fun c e => by
  have := (List.all_eq_true.1 h) o ho
  rw [e] at this
  cases this

theorem wpIn_of_quiet {P : Program} {C : World → Prop} {l n : Nat} {o : Oper} (hd : ∀ c, o.op ≠ .defer c) {a : Act} {K : Act → Prop} {K' : Act → World → Prop} {Q' : Exit → Act → World → Prop} {w : World} (hw : C w) (h : ∀ a w', C w' → K a → K' a w')
    (hh : o.quiet P a C K) : o.wpIn (Fence.wide.inRound l) n P a w K' Q' := by
  obtain ⟨v, h1, h2⟩ := hh
  have h3 := h1 w hw
  unfold Oper.quietAt at h3
  unfold Oper.wpIn
  refine ⟨fun _ _ => trivial, ?_⟩
  rw [Oper.semAt_eq _ _ _ hd]
  generalize (execOp a.eval o).run P w = r at *
  cases r with
  | ok n w' =>
    cases n <;> simp only [Oper.quietUpon] at h3 <;> simp only [Oper.uponIn]
    case value u =>
      obtain ⟨e1, e2⟩ := h3
      rw [e1, e2]
      exact h _ _ hw h2
    case skip =>
      obtain ⟨e1, e2⟩ := h3
      rw [e1, ← e2]
      exact h _ _ hw h2
    case enter f args =>
      obtain ⟨e1, hc⟩ := h3
      rw [e1]
      refine ⟨(fun h => by cases h), CallsIn.inRound l (callsIn_wide.2 (hc.mono fun e w'' ⟨he, hw''⟩ => ?_))⟩
      subst he
      exact h _ _ hw'' h2
  | halt x w' => simp only [Oper.quietUpon] at h3

theorem wpAnyIn_of_quiet' {P : Program} {md : Region.Mode} {C : World → Prop} {l n : Nat} {L : List Oper} (hd : noDefer L = true) {Q : Act → Prop} {Q' : Exit → Act → World → Prop} (hQ : ∀ a w, C w → Q a → Q' .normal a w) :
    ∀ (fuel : Nat) (listed : Array Bool) (a : Act) (w : World), C w → wpAnyQ P md L.toArray C Q fuel listed a → wpAnyIn (Fence.wide.inRound l) n P md L.toArray Q' fuel listed a w
  | 0, _, _, _, hw, h => ⟨h.1, hQ _ _ hw h.2⟩
  | fuel + 1, _, _, _, hw, h => ⟨fun h0 => hQ _ _ hw (h.1 h0), fun i hi => by
      have hh := h.2 i hi
      unfold qOp at hh
      unfold wpOpIn
      split
      · rename_i ho
        simp only [ho] at hh
        exact wpAnyIn_of_quiet' hd hQ fuel _ _ _ hw hh
      · rename_i o ho
        simp only [ho] at hh
        have hm : o ∈ L := by
          have := Array.mem_of_getElem? ho
          simpa using this
        split
        · rename_i hw'
          simp only [hw', if_true] at hh
          exact wpIn_of_quiet (noDefer_at hd hm) hw (fun a' w' hw' => wpAnyIn_of_quiet' hd hQ fuel _ a' w' hw') hh
        · rename_i hw'
          simp only [hw'] at hh
          exact ⟨fun _ _ => trivial, wpAnyIn_of_quiet' hd hQ fuel _ _ _ hw hh⟩⟩

/-- ONE WALK OF THE TEXT's ORDER SERVES EVERY ORDER, IN A ROUND. -/
theorem wpIn_round_quiet {P : Program} {l n id : Nat} {Q : Exit → Act → World → Prop} {a : Act} {w : World} {L : List Oper} (hd : noDefer L = true) (hm : P.follows .mixedOrders = true) (hB : Region.lexB .any L.toArray = true)
    (h : wpQuiet P L.toArray (fun w' => ∃ n, w' = w.drewN n) (fun a' => ∀ w', (∃ n, w' = w.drewN n) → Q .normal a' w') L a) : (Code.region id L.toArray true).wpIn (Fence.wide.inRound l) n P Q a w := by
  simp only [Region.lexB, Bool.and_eq_true] at hB
  refine wpIn_region_any hm (wpAnyIn_of_quiet' (Q := fun a' => ∀ w', (∃ n, w' = w.drewN n) → Q .normal a' w') hd (fun _ w' hw' h => h w' hw') _ _ _ _ ⟨1, rfl⟩ ?_)
  have := wpAnyQ_lex (P := P) (md := .any) (C := fun w' => ∃ n, w' = w.drewN n) hB.1 L 0 (Array.replicate L.toArray.size false) a (by simp) (by simpa using hB.2) h
  simpa using this
end Go.Proofs.YthlghokgknkpaaaGreatDoor

/-
  A range over a function whose iterator may have a receiver bound to it (a method value); the frame of a round is found by the walk of the assignment. No program is named here.
-/
namespace Go.Proofs.YthlghokgknkpaaaGreatDoor
open Go.RowKit Go.Shelf

/-- The value of an iterator, perhaps with a receiver bound to it (fb), made ahead of w, whose boxes lie from lo up to hi: called in a later world in which they lie as they lay, at whatever loop's yield, it tells all of xs in its order, or stops where a round says so. J and Jx are the caller's; the iterator keeps what lay ahead of its call, and cells beyond its window. -/
def SeqV {α : Type} (P : Program) (g : Nat) (fb lb : Array Value) (encs : α → Array Value) (lo hi : Nat) (xs : List α) (w : World) : Prop :=
  ∀ (l : Nat) (J Jx : Nat → List α → World → Prop) (W : World), Keeps lo hi w W →
    (∀ B pre X Y, W.heap.size ≤ B → J B pre X → Outside W.heap.size B X Y → J B pre Y) →
    (∀ B pre X Y, W.heap.size ≤ B → Jx B pre X → Outside W.heap.size B X Y → Jx B pre Y) →
    (∀ B pre x X, W.heap.size ≤ B → B ≤ X.heap.size → pre ++ [x] <+: xs → J B pre X → YieldAt Fence.wide 0 P l (encs x) X fun e Y =>
      ∃ b : Bool, e = .returned (.bool b) ∧ Keeps lo hi X Y ∧ Keeps W.heap.size B X Y ∧ (if b then J B (pre ++ [x]) Y else Jx B (pre ++ [x]) Y)) →
    (∀ X, Below W.heap.size W X → J X.heap.size [] X) →
    Calls P g (fb ++ #[.func (.yield l) #[] #[]] ++ lb) W fun e Y => (∃ v, e = .returned v) ∧ ∃ B, W.heap.size ≤ B ∧ (J B xs Y ∨ ∃ pre, pre <+: xs ∧ Jx B pre Y)

theorem SeqW.seqV {α : Type} {P : Program} {g : Nat} {lb : Array Value} {encs : α → Array Value} {lo hi : Nat} {xs : List α} {w : World} (h : SeqW P g lb encs lo hi xs w) : SeqV P g #[] lb encs lo hi xs w := fun l J Jx W h1 h2 h3 h4 h5 => by
  have := h l J Jx W h1 h2 h3 h4 h5
  rw [Array.empty_append]
  exact this

theorem range_seqV {α : Type} {n m : Nat} {P : Program} {g : Operand} {ps : Array Tmp} {assign body : Code} {Q : Exit → Act → World → Prop} {a : Act} {w : World}
    {gf : Nat} {fb lb : Array Value} (hg : a.eval g = .func (.func gf) fb lb) (eg : ∀ args w, (callFunc gf args).run P w = .ok (.enter gf args) w)
    {encs : α → Array Value} {lo hi : Nat} {xs : List α} (hseq : SeqV P gf fb lb encs lo hi xs w) (hhi : hi ≤ w.heap.size) (hps : ∀ x, (encs x).size = ps.size)
    (I : Nat → List α → World → Prop) (Ix : Nat → Code → List α → World → Prop)
    (hI : ∀ B pre X Y, w.heap.size + 2 ≤ B → I B pre X → Outside w.heap.size B X Y → I B pre Y)
    (hIx : ∀ B c pre X Y, w.heap.size + 2 ≤ B → Ix B c pre X → Outside w.heap.size B X Y → Ix B c pre Y)
    (h0 : ∀ X, Below w.heap.size w X → w.heap.size + 2 ≤ X.heap.size → I X.heap.size [] X)
    (hab : ∃ a₁ : α → Act, (∀ (l : Nat) (x : α) (W : World) (K : Act → World → Prop), K (a₁ x) W →
      assign.wpIn (Fence.wide.inRound l) m P (Exit.then K (fun _ _ _ => False)) { tmps := (ps.zip (encs x)).foldl (fun t (p, v) => t.setIfInBounds p v) a.tmps, defers := [] } W) ∧
      (∀ (l B : Nat) (pre : List α) (x : α) (W : World), w.heap.size + 2 ≤ B → B ≤ W.heap.size → pre ++ [x] <+: xs → I B pre W →
      body.wpIn (Fence.wide.inRound l) m P (wPost lo hi w.heap.size B (I B) (Ix B) (pre ++ [x]) W) (a₁ x) W))
    (hdone : ∀ (B : Nat) (W : World), w.heap.size + 2 ≤ B → I B xs W → W.heap[w.heap.size]? = some (.deferred (some [])) → Q .normal { a with defers := { target := .collected w.heap.size, args := #[] } :: a.defers } W)
    (hstop : ∀ (B : Nat) (c : Code) (pre : List α) (W : World), w.heap.size + 2 ≤ B → pre <+: xs → Ix B c pre W → W.heap[w.heap.size]? = some (.deferred (some [])) →
      c.wpIn Fence.wide n P Q { a with defers := { target := .collected w.heap.size, args := #[] } :: a.defers } W) :
    (Code.rangeFunc g ps assign body).wpIn Fence.wide n P Q a w := by
  obtain ⟨a₁, hassign, hbody⟩ := hab
  refine wpIn_rangeFunc fun fn _ => ?_
  let rec' : LoopState → Option Code → Loop := fun st pe => { state := st, pending := pe, fn := fn, tmps := a.tmps, params := ps, assign := assign, body := body, defers := w.heap.size }
  obtain ⟨W0, hW0⟩ : ∃ W0, (w.alloc (.deferred (some []))).alloc (.loop (rec' .ready none)) = W0 := ⟨_, rfl⟩
  have hz : W0.heap.size = w.heap.size + 2 := by rw [← hW0]; simp
  have hB0 : Below w.heap.size w W0 := by rw [← hW0]; exact ((Below.refl _ w).alloc (Nat.le_refl _) _).alloc (by simp) _
  have hl0 : W0.heap[w.heap.size + 1]? = some (.loop (rec' .ready none)) := by
    have := World.alloc_heap_new (w.alloc (.deferred (some []))) (.loop (rec' .ready none))
    rw [World.size_alloc] at this
    rw [← hW0]; exact this
  have hd0 : W0.heap[w.heap.size]? = some (.deferred (some [])) := by
    rw [← hW0]; exact (Below.heap_alloc _ _ _ (by simp)).trans (World.alloc_heap_new w _)
  refine ⟨w.heap.size + 1, [{ target := .collected w.heap.size, args := #[] }], W0, { target := .fn (.func gf) lb, args := fb ++ #[.func (.yield (w.heap.size + 1)) #[] #[]] }, W0, gf,
    fb ++ #[.func (.yield (w.heap.size + 1)) #[] #[]] ++ lb, W0, ?_, ?_, fun _ _ => trivial, ?_, (fun h => by cases h), ?_⟩
  · rw [← hW0]; exact run_enterLoop_outer _ _ _ _ _
  · simp only [resolve, hg]; simp [go_sem]
  · simp [invoke, go_sem, eg]
  refine callsIn_wide.2 ?_
  refine (hseq (w.heap.size + 1)
    (fun B pre X => I B pre X ∧ X.heap[w.heap.size + 1]? = some (.loop (rec' .ready none)) ∧ X.heap[w.heap.size]? = some (.deferred (some [])))
    (fun B pre X => ∃ c, Ix B c pre X ∧ X.heap[w.heap.size + 1]? = some (.loop (rec' .done (some c))) ∧ X.heap[w.heap.size]? = some (.deferred (some [])))
    W0 (Keeps.of_below hB0 hhi) ?_ ?_ ?_ ?_).mono ?_
  · rintro B pre X Y hB ⟨h1, h2, h3⟩ ho
    exact ⟨hI B pre X Y (by omega) h1 (ho.mono (by omega)), ho.block _ _ h2 (.inl (by omega)), ho.block _ _ h3 (.inl (by omega))⟩
  · rintro B pre X Y hB ⟨c, h1, h2, h3⟩ ho
    exact ⟨c, hIx B c pre X Y (by omega) h1 (ho.mono (by omega)), ho.block _ _ h2 (.inl (by omega)), ho.block _ _ h3 (.inl (by omega))⟩
  · rintro B pre x X hB hBX hpre ⟨hi1, hl, hd⟩
    have hy := run_yield (P := P) (args := encs x) hl (hps x)
    refine YieldAt.wide (m := m) ⟨fn, _, assign, body, hy, roundIn_of_wpIn (wide_fn fn) (hassign _ x X _ ⟨_, run_beginRound hl rfl, ?_⟩)⟩
    clear hy
    have hlt : w.heap.size + 1 < X.heap.size := (Array.getElem?_eq_some_iff.1 hl).1
    obtain ⟨X1, hX1⟩ : ∃ X1, X.putObj (w.heap.size + 1) (.loop { rec' .ready none with state := .busy }) = X1 := ⟨_, rfl⟩
    have ho1 : Outside w.heap.size B X X1 := by rw [← hX1]; exact Outside.putObj _ (by omega) hl rfl
    have hk1 : ∀ A' B', w.heap.size + 2 ≤ A' ∨ B' ≤ w.heap.size → Keeps A' B' X X1 := fun A' B' h => by rw [← hX1]; exact (Keeps.refl _ _ _).putObj (by omega) _
    have hl1 : X1.heap[w.heap.size + 1]? = some (.loop { rec' .ready none with state := .busy }) := by rw [← hX1]; exact World.putObj_heap_same hlt
    have hd1 : X1.heap[w.heap.size]? = some (.deferred (some [])) := by rw [← hX1]; exact (World.putObj_heap_other (by omega)).trans hd
    have hz1 : X1.heap.size = X.heap.size := by rw [← hX1]; simp
    rw [hX1]
    refine wpIn_mono (hbody _ B pre x X1 (by omega) (by omega) hpre (hI B pre X X1 (by omega) hi1 ho1)) ?_
    have fin : ∀ (jump : Option Code) (Z : World), Keeps lo hi X1 Z → Keeps w.heap.size B X1 Z →
        ∃ Z', (Instr.endRound (w.heap.size + 1) jump).run P Z = .ok (.bool jump.isNone) Z' ∧ Z'.heap[w.heap.size + 1]? = some (.loop (rec' (if jump.isNone then .ready else .done) jump)) ∧
          Z'.heap[w.heap.size]? = some (.deferred (some [])) ∧ Keeps lo hi X Z' ∧ Keeps W0.heap.size B X Z' ∧ Outside w.heap.size B Z Z' := fun jump Z k1 k2 => by
      have hl2 : Z.heap[w.heap.size + 1]? = some (.loop { rec' .ready none with state := .busy }) := (k2.same _ (by omega) (by omega)).trans hl1
      have hd2 : Z.heap[w.heap.size]? = some (.deferred (some [])) := (k2.same _ (by omega) (by omega)).trans hd1
      refine ⟨_, run_endRound jump hl2, World.putObj_heap_same (Array.getElem?_eq_some_iff.1 hl2).1, (World.putObj_heap_other (by omega)).trans hd2, ?_, ?_, Outside.putObj _ (by omega) hl2 rfl⟩
      · exact ((hk1 lo hi (.inr hhi)).trans k1).putObj (.inr (by omega)) _
      · exact ((hk1 _ _ (.inl (by omega))).trans (k2.mono (by omega) (Nat.le_refl _))).putObj (.inl (by omega)) _
    rintro e a3 Z hp
    cases e with
    | normal =>
      obtain ⟨k1, k2, k3⟩ := hp
      obtain ⟨Z', r1, r2, r3, r4, r5, r6⟩ := fin none Z k1 k2
      exact ⟨_, _, r1, true, rfl, r4, r5, hI B _ Z Z' (by omega) k3 r6, r2, r3⟩
    | ret =>
      obtain ⟨k1, k2, k3⟩ := hp
      obtain ⟨Z', r1, r2, r3, r4, r5, r6⟩ := fin (some .ret) Z k1 k2
      exact ⟨_, _, r1, false, rfl, r4, r5, .ret, hIx B _ _ Z Z' (by omega) k3 r6, r2, r3⟩
    | exit id =>
      obtain ⟨k1, k2, k3⟩ := hp
      obtain ⟨Z', r1, r2, r3, r4, r5, r6⟩ := fin (some (.exit id)) Z k1 k2
      exact ⟨_, _, r1, false, rfl, r4, r5, .exit id, hIx B _ _ Z Z' (by omega) k3 r6, r2, r3⟩
    | goto t =>
      obtain ⟨k1, k2, k3⟩ := hp
      obtain ⟨Z', r1, r2, r3, r4, r5, r6⟩ := fin (some (.goto t)) Z k1 k2
      exact ⟨_, _, r1, false, rfl, r4, r5, .goto t, hIx B _ _ Z Z' (by omega) k3 r6, r2, r3⟩
    | panic ch => exact hp.elim
    | outgrown => exact hp.elim
  · intro X hX
    exact ⟨h0 X (hB0.trans (hX.mono (by omega))) (by have := hX.size; omega), (hX.block _ (by omega)).trans hl0, (hX.block _ (by omega)).trans hd0⟩
  · rintro e Z ⟨⟨v, rfl⟩, B, hB, (⟨k1, k2, k3⟩ | ⟨pre, hpre, c, k1, k2, k3⟩)⟩
    · exact ⟨none, _, run_endLoop k2 (by intro h; cases h), hdone B _ (by omega) (hI B _ _ _ (by omega) k1 (Outside.putObj _ (by omega) k2 rfl)) ((World.putObj_heap_other (by omega)).trans k3)⟩
    · exact ⟨some c, _, run_endLoop k2 (by intro h; cases h), hstop B c pre _ (by omega) hpre (hIx B _ _ _ _ (by omega) k1 (Outside.putObj _ (by omega) k2 rfl)) ((World.putObj_heap_other (by omega)).trans k3)⟩
end Go.Proofs.YthlghokgknkpaaaGreatDoor

/-
  Contracts: Map[string].made, hash, find.
-/
namespace Go.Proofs.YthlghokgknkpaaaGreatDoor
open Go.RowKit Go.Shelf

theorem made_nil_s (w : World) : Calls Tryz.prog 34 #[.pointer none] w fun e w' => e = .returned (.bool false) ∧ w' = w := by
  go_enter Tryz.func34, Tryz.ntmps34
  go_wp2
  go_ret
  exact ⟨rfl, rfl⟩

theorem made_any_s (b n c : Nat) (p : Option Addr) (w : World) (h : w.cell? ⟨b, 2, none⟩ = some (.slice p n c)) : Calls Tryz.prog 34 #[.pointer (some ⟨b, 0, none⟩)] w fun e w' => e = .returned (.bool (decide (0 < n))) ∧ w' = w := by
  go_enter Tryz.func34, Tryz.ntmps34
  go_wp2
  go_ret
  refine ⟨?_, rfl⟩
  simp

theorem hash_any_s (b bw bs : Nat) (M : SM) (key : ByteArray) (w : World) (h : Lies 74 71 w b bw bs M) (hk : key.size < 140737488355328) :
    Calls Tryz.prog 64 #[.pointer (some ⟨b, 0, none⟩), .string key] w fun e w' => e = .returned (partsV (M.hash key)) ∧ Below w.heap.size w w' := by
  obtain ⟨cw, cs, c0, c1, c2, c3, c4, c5, _, _⟩ := h.cells
  have hs := fun W : World => sum_any M.k0 M.k1 key W hk
  have hw := M.wd_hash key
  unfold SM.hash at hw ⊢
  generalize sumI M.k0 M.k1 (byt key) key.size = x at *
  go_enter Tryz.func64, Tryz.ntmps64
  go_wp2_with fail
  refine (hs _).mono ?_
  rintro e w1 ⟨rfl, hb⟩
  go_wp2_with fail
  refine same_mono (split_any x _ hw) ?_
  unfold partsV
  go_wp2
  go_ret2
  exact ⟨rfl, hb⟩

/-- The hash, parted: where to look, and what stands there. -/
theorem hash_at_s (b bw bs : Nat) (M : SM) (key : ByteArray) (hF : M.Fit) (hk : key.size < 140737488355328) : ∃ H : Int, 0 ≤ H ∧ H < 18446744073709551616 ∧ grpL H M.ws.length = (M.gs key).map (fun g : Nat => (g : Int)) ∧
    ∀ w, Lies 74 71 w b bw bs M →
    Calls Tryz.prog 64 #[.pointer (some ⟨b, 0, none⟩), .string key] w fun e w' => e = .returned (.tuple #[.int .u64 H, .int .u8 (M.what key : Nat)]) ∧ Below w.heap.size w w' := by
  have hw := M.wd_hash key
  refine ⟨M.hash key / 128, ?_, ?_, M.gs_eq hF key, fun w h => ?_⟩
  · have := hw.1
    generalize M.hash key = x at *
    omega
  · have := hw.2
    generalize M.hash key = x at *
    omega
  · have := hash_any_s b bw bs M key w h hk
    unfold partsV at this
    rw [← M.what_eq key] at this
    exact this

set_option maxRecDepth 100000 in
set_option maxHeartbeats 4000000 in
theorem find_any_s (b bw bs : Nat) (M : SM) (key : ByteArray) (w : World) (hT : Tab w) (h : Lies 74 71 w b bw bs M) (hF : M.Fit) (hk : key.size < 140737488355328) :
    Calls Tryz.prog 35 #[.pointer (some ⟨b, 0, none⟩), .string key] w fun e w' => e = .returned (.int .i64 (match M.find key with | some p => (p : Int) | none => -1)) ∧ Below w.heap.size w w' := by
  obtain ⟨cw, cs, c0, c1, c2, c3, c4, c5, hcw, hcs⟩ := h.cells
  have hr := good_range hF.good
  have hlt := h.lt
  obtain ⟨H, hH0, hH1, hgs, hhash⟩ := hash_at_s b bw bs M key hF hk
  obtain ⟨r, hres⟩ : ∃ r : Int, (match M.find key with | some p => (p : Int) | none => -1) = r := ⟨_, rfl⟩
  rw [hres]
  refine (callsIn_wide (n := 9)).1 ?_
  refine callsIn_of_wp_marks Tryz.func35 rfl trivial ?_ rfl
  simp only [Tryz.ntmps35, List.size_toArray, List.length_cons, List.length_nil, Nat.reduceAdd, Nat.reduceSub, Array.replicate_succ, Array.replicate_zero, List.push_toArray, List.append_toArray, List.nil_append, List.cons_append]
  have q0 := Boxed.new w 28 (.pointer (some ⟨b, 0, none⟩))
  have q1 := Boxed.new (w.alloc (.cells #[.pointer (some ⟨b, 0, none⟩)] 28)) 9 (.string key)
  rw [World.size_alloc] at q1
  replace q0 := q0.alloc (.cells #[.string key] 9)
  have hBq : Below w.heap.size w ((w.alloc (.cells #[.pointer (some ⟨b, 0, none⟩)] 28)).alloc (.cells #[.string key] 9)) := ((Below.refl _ w).alloc (Nat.le_refl _) _).alloc (by simp) _
  have hzq : ((w.alloc (.cells #[.pointer (some ⟨b, 0, none⟩)] 28)).alloc (.cells #[.string key] 9)).heap.size = w.heap.size + 2 := by simp
  have k2 := (hBq.cell (p := ⟨b, 2, none⟩) hlt.1).trans c2
  generalize hX0 : (w.alloc (.cells #[.pointer (some ⟨b, 0, none⟩)] 28)).alloc (.cells #[.string key] 9) = X0 at q0 q1 hBq hzq k2
  have e0 := q0.cell
  have e1 := q1.cell
  have hpos : decide (0 < M.ws.length) = true := decide_eq_true (by omega)
  have hmade := made_any_s b _ _ _ X0 k2
  rw [hpos] at hmade
  gi_wp2
  refine scope_wide ?_
  gi_wp2_with (refine ⟨trivial, ?_⟩; gi_at_call 34; refine (callsIn_wide.2 hmade).mono ?_; rintro e w' ⟨rfl, rfl⟩)
  refine ⟨trivial, ?_⟩
  refine (callsIn_wide.2 (hhash _ (h.below hBq (Nat.le_refl _)))).mono ?_
  rintro e W1 ⟨rfl, hB1⟩
  replace q0 : Boxed W1 _ _ _ := (hB1.block _ (by omega)).trans q0
  replace q1 : Boxed W1 _ _ _ := (hB1.block _ (by omega)).trans q1
  have hz1 : w.heap.size + 2 ≤ W1.heap.size := by have := hB1.size; omega
  replace hB1 : Below w.heap.size w W1 := hBq.trans (hB1.mono (by omega))
  clear hmade k2 e0 e1 hBq hzq hX0 hhash w'
  have e0 := q0.cell
  have e1 := q1.cell
  gi_wp2
  refine wpIn_label ?_
  rename_i hK
  refine hK _ _ ?_
  clear hK
  have q2 := Boxed.new W1 5 (.int .u8 (M.what key : Nat))
  have q3 := Boxed.new (W1.alloc (.cells #[.int .u8 (M.what key : Nat)] 5)) 3 (.int .i64 (-1))
  rw [World.size_alloc] at q3
  replace q0 := (q0.alloc (.cells #[.int .u8 (M.what key : Nat)] 5)).alloc (.cells #[.int .i64 (-1)] 3)
  replace q1 := (q1.alloc (.cells #[.int .u8 (M.what key : Nat)] 5)).alloc (.cells #[.int .i64 (-1)] 3)
  replace q2 := q2.alloc (.cells #[.int .i64 (-1)] 3)
  have hB2 : Below w.heap.size w ((W1.alloc (.cells #[.int .u8 (M.what key : Nat)] 5)).alloc (.cells #[.int .i64 (-1)] 3)) := (hB1.alloc (by omega) _).alloc (by simp; omega) _
  have hz2 : ((W1.alloc (.cells #[.int .u8 (M.what key : Nat)] 5)).alloc (.cells #[.int .i64 (-1)] 3)).heap.size = W1.heap.size + 2 := by simp
  generalize (W1.alloc (.cells #[.int .u8 (M.what key : Nat)] 5)).alloc (.cells #[.int .i64 (-1)] 3) = X2 at *
  generalize W1.heap.size = b2 at *
  clear e0 e1 hB1
  have e0 := q0.cell
  have k2 := (hB2.cell (p := ⟨b, 2, none⟩) hlt.1).trans c2
  gi_wp2_with (refine ⟨trivial, ?_⟩; gi_at_call 65; refine (callsIn_wide.2 (seq_any H (M.ws.length : Int) _ (by omega) (by omega))).mono ?_; rw [hz2]; rintro e W5 ⟨rfl, hB5, hz5, s0, s1, s2⟩)
  replace q0 : Boxed W5 _ _ _ := (hB5.block _ (by omega)).trans q0
  replace q1 : Boxed W5 _ _ _ := (hB5.block _ (by omega)).trans q1
  replace q2 : Boxed W5 _ _ _ := (hB5.block _ (by omega)).trans q2
  replace q3 : Boxed W5 _ _ _ := (hB5.block _ (by omega)).trans q3
  replace hB2 := hB2.trans (hB5.mono (by omega))
  clear hB5 e0 k2 hz2 X2
  refine range_seqV (m := 7) (gf := 99) (fb := #[]) (lb := #[.pointer (some ⟨b2 + 2 + 2, 0, none⟩), .pointer (some ⟨b2 + 2, 0, none⟩), .pointer (some ⟨b2 + 2 + 1, 0, none⟩)]) rfl (enters_of Tryz.func99 (by kernel_rfl) rfl)
    (seq1_seq (b2 + 2) H (M.ws.length : Int) hH0 hH1 (by omega) (by omega) W5 (by omega) s0 s1 s2).seqV (by omega) (fun _ => rfl)
    (fun B pre X => Boxed X w.heap.size 28 (.pointer (some ⟨b, 0, none⟩)) ∧ Boxed X (w.heap.size + 1) 9 (.string key) ∧ Boxed X b2 5 (.int .u8 (M.what key : Nat)) ∧ Boxed X (b2 + 1) 3 (.int .i64 (-1)) ∧ Below w.heap.size w X ∧
      ∀ rest, (M.gs key).map (fun g : Nat => (g : Int)) = pre ++ rest → M.find key = M.findG key (rest.map Int.toNat))
    (fun B c pre X => c = .exit 0 ∧ Boxed X (b2 + 1) 3 (.int .i64 r) ∧ Below w.heap.size w X)
    ?hI ?hIx ?h0 ?ab ?done ?stop
  case hI =>
    rintro B pre X Y hB ⟨d0, d1, d2, d3, d4, d5⟩ ho
    exact ⟨ho.box d0 (.inl (by omega)), ho.box d1 (.inl (by omega)), ho.box d2 (.inl (by omega)), ho.box d3 (.inl (by omega)), d4.trans (ho.below (by omega) d4.size), d5⟩
  case hIx =>
    rintro B c pre X Y hB ⟨rfl, d1, d2⟩ ho
    exact ⟨rfl, ho.box d1 (.inl (by omega)), d2.trans (ho.below (by omega) d2.size)⟩
  case h0 =>
    intro X hX _
    refine ⟨(hX.block _ (by omega)).trans q0, (hX.block _ (by omega)).trans q1, (hX.block _ (by omega)).trans q2, (hX.block _ (by omega)).trans q3, hB2.trans (hX.mono (by omega)), fun rest hrest => ?_⟩
    rw [List.nil_append] at hrest
    rw [← hrest, List.map_map]
    unfold SM.find
    congr 1
    exact (List.map_id _).symm
  case ab =>
    apply Exists.intro
    constructor
    · intro l x X K hK
      have hsem := @Oper.semAt_some l
      gi_wp2
      exact hK
    · rintro l B pre x X hB hBX hpre ⟨d0, d1, d2, d3, d4, d5⟩
      have hsem := @Oper.semAt_some l
      rw [hgs] at hpre
      obtain ⟨gx, hgx, rfl⟩ := List.mem_map.1 (hpre.subset (List.mem_append_right _ (List.mem_singleton.2 rfl)))
      have hgl := SM.gs_lt hF key gx hgx
      obtain ⟨rest, hrest⟩ := hpre
      have hfind : Hid (M.find key = M.findG key (gx :: rest.map Int.toNat)) := by
        have := d5 ((gx : Int) :: rest) (by rw [← hrest]; simp)
        rw [List.map_cons, Int.toNat_natCast] at this
        exact this
      have hd6 : Hid (∀ rest' : List Int, (M.gs key).map (fun g : Nat => (g : Int)) = (pre ++ [(gx : Int)]) ++ rest' → rest' = rest) := fun rest' he => by
        rw [← hrest] at he
        exact (List.append_cancel_left he).symm
      clear hrest d5
      have hL := h.below d4 (Nat.le_refl _)
      have hTX : Tab X := hT.below d4 (by have := hT.1; omega)
      obtain ⟨dw, ds, _, _, k2, k3, _, _, hdw, hds⟩ := hL.cells
      have kw := hL.word gx hgl
      have hwl := hF.words gx hgl
      have hhit : Hid (M.hit key gx = (slotsL (matchN (M.w gx) (M.what key))).find? fun i => decide ((M.s (8 * gx + i)).1 = key)) := hit_eq M key gx
      have hE : Hid (hasE (M.w gx) = !decide (matchN (M.w gx) 128 = 0)) := hasE_match _
      have hwhat := M.what_lt key
      have e0 := d0.cell
      have e1 := d1.cell
      have e2 := d2.cell
      have hkey : ∀ i, i < 8 → X.cell? ⟨bs, (8 * gx + i) * 2, none⟩ = some (.string (M.s (8 * gx + i)).1) := fun i hi => hL.key _ (by rw [hF.slots]; omega)
      generalize hwd0 : M.w gx = wd at *
      have hwd : Hid (M.w gx = wd) := hwd0
      clear hwd0
      have hset := matchN_lt wd (M.what key)
      have hset2 := matchN_lt wd 128
      gi_wp2_with (refine ⟨trivial, ?_⟩; gi_at_call 66; refine (CallsIn.inRound l (callsIn_wide.2 (match_any wd (M.what key) _ hwl (by omega)))).mono ?_; rintro e X ⟨rfl, rfl⟩)
      gi_loopw [10] (fun p wr => ∃ q : Nat, p = .int .u8 (q : Nat) ∧ q < 256 ∧ Hid (M.hit key gx = (slotsL q).find? fun i => decide ((M.s (8 * gx + i)).1 = key)) ∧ ∃ m, wr = X.drewN m) (fun p _ => (slotsL (intOf p).toNat).length)
      case atStart => exact ⟨_, rfl, hset, hhit, 0, rfl⟩
      case round =>
        obtain ⟨q, rfl, hq, hq2, m, rfl⟩ := hrel
        clear hhit
        have hbel : Below w.heap.size w (X.drewN m) := ⟨d4.os, d4.tape, d4.output, d4.size, d4.block⟩
        by_cases h0q : q = 0
        · subst h0q
          have hnone : Hid (M.hit key gx = none) := by
            have := hq2.out
            rw [slots_zero] at this
            exact this
          by_cases hem : matchN wd 128 = 0
          · gi_wp2_with (refine ⟨trivial, ?_⟩; gi_at_call 41; refine (CallsIn.inRound l (callsIn_wide.2 (empties_any wd _ hwl))).mono ?_; rintro e Y ⟨rfl, rfl⟩; rw [hem])
            refine ⟨⟨Nat.le_refl _, fun _ _ _ => rfl⟩, ⟨Nat.le_refl _, fun _ _ _ => rfl⟩, d0, d1, d2, d3, hbel, fun rest' he => ?_⟩
            rw [hd6.out rest' he, hfind.out, SM.findG, hnone.out, hwd.out, hE.out, hem]
            rfl
          · have hem' : (matchN wd 128 : Int) ≠ 0 := by omega
            have hr1 : Hid (r = -1) := by
              show r = -1
              rw [← hres, hfind.out, SM.findG, hnone.out, hwd.out, hE.out, decide_eq_false hem]
              rfl
            gi_wp2_with (refine ⟨trivial, ?_⟩; gi_at_call 41; refine (CallsIn.inRound l (callsIn_wide.2 (empties_any wd _ hwl))).mono ?_; rintro e Y ⟨rfl, rfl⟩)
            refine ⟨⟨Nat.le_refl _, fun _ _ _ => rfl⟩, ⟨Nat.le_refl _, fun _ _ _ => rfl⟩, rfl, ?_, hbel⟩
            rw [hr1.out]
            exact d3
        · have hst := slots_step ⟨q, hq⟩ h0q
          dsimp only at hst
          have hf8 : firstN q < 8 := by
            have : firstN q ∈ slotsL q := by rw [hst]; exact List.mem_cons_self
            exact List.mem_range.1 (List.mem_filter.1 this).1
          have hq2' := hq2.out
          rw [hst, List.find?_cons] at hq2'
          have hk1 := hkey (firstN q) hf8
          have hn8 := nextN_lt q hq
          have hlen : Hid ((slotsL (nextN q)).length < (slotsL q).length) := by
            show _ < _
            rw [hst]; simp
          have hf := first_any q (X.drewN m) hTX hq
          clear hst hkey hq2
          have hs8 := hF.slots
          have hi1 : 8 * (gx : Int) + (firstN q : Nat) < M.ss.length := by omega
          clear hs8
          generalize firstN q = f at *
          have d3' : Boxed (X.drewN m) (b2 + 1) 3 (.int .i64 (-1)) := d3
          by_cases hke : (M.s (8 * gx + f)).1 = key
          · have hr1 : Hid (r = 8 * (gx : Int) + f) := by
              show r = _
              rw [decide_eq_true hke] at hq2'
              rw [← hres, hfind.out, SM.findG, hq2']
              show ((8 * gx + f : Nat) : Int) = _
              omega
            clear hq2'
            have e3 := d3.cell
            have f3 := d3.frozen
            gi_wp2_with (refine ⟨trivial, ?_⟩; gi_at_call 68; refine (CallsIn.inRound l (callsIn_wide.2 hf)).mono ?_; rintro e Y ⟨rfl, rfl⟩)
            refine wpIn_round_quiet (by kernel_rfl) (by kernel_rfl) (by kernel_rfl) ?_
            repeat (go_big_quiet_step (fail))
            refine wpQuiet_nil ?_
            rintro _ ⟨nq, rfl⟩
            gi_wp2
            have d3n : Boxed (X.drewN (m + nq)) (b2 + 1) 3 (.int .i64 (-1)) := d3
            refine ⟨((⟨Nat.le_refl _, fun _ _ _ => rfl⟩ : Keeps (b2 + 2) (b2 + 2 + 3) X (X.drewN (m + nq)))).setCell (p := ⟨b2 + 1, 0, none⟩) (.inl (Nat.lt_succ_self _)) _, ((⟨Nat.le_refl _, fun _ _ _ => rfl⟩ : Keeps W5.heap.size B X (X.drewN (m + nq)))).setCell (p := ⟨b2 + 1, 0, none⟩) (.inl (by show b2 + 1 < _; omega)) _, rfl, ?_, ?_⟩
            · rw [hr1.out]
              exact d3n.set _
            · exact (⟨hbel.os, hbel.tape, hbel.output, hbel.size, hbel.block⟩ : Below w.heap.size w (X.drewN (m + nq))).setCell (p := ⟨b2 + 1, 0, none⟩) (by show _ ≤ b2 + 1; omega) _
          · have hq3 : Hid (M.hit key gx = (slotsL (nextN q)).find? fun i => decide ((M.s (8 * gx + i)).1 = key)) := by
              rw [decide_eq_false hke] at hq2'
              exact hq2'
            clear hq2'
            have hke' := str_ne hke
            gi_wp2_with (refine ⟨trivial, ?_⟩; gi_at_call 68; refine (CallsIn.inRound l (callsIn_wide.2 hf)).mono ?_; rintro e Y ⟨rfl, rfl⟩)
            refine wpIn_round_quiet (by kernel_rfl) (by kernel_rfl) (by kernel_rfl) ?_
            repeat (go_big_quiet_step (fail))
            refine wpQuiet_nil ?_
            rintro _ ⟨nq, rfl⟩
            gi_wp2_with (refine ⟨trivial, ?_⟩; gi_at_call 67; refine (CallsIn.inRound l (callsIn_wide.2 (next_any q _ hq))).mono ?_; rintro e Y ⟨rfl, rfl⟩)
            go_roundw
            case rel => exact ⟨nextN q, rfl, hn8, hq3, m + nq, rfl⟩
            case measure => exact hlen.out
  case done =>
    rintro B X hB ⟨d0, d1, d2, d3, d4, d5⟩ hD
    have hr1 : Hid (r = -1) := by
      show r = -1
      have := d5 [] (by rw [hgs, List.append_nil])
      rw [← hres, this]
      rfl
    have e3 := d3.cell
    gi_wp2
    rw [Exit.noGoto_ret]
    refine ⟨by simp, .inl ⟨_, _, rfl, run_takeDeferred hD, ?_⟩⟩
    refine ⟨_, results_tmp rfl _ _ _, ?_, d4.trans ((Outside.putObj (B := 0) _ (Nat.le_refl _) hD rfl).below (by omega) d4.size)⟩
    rw [hr1.out]
    rfl
  case stop =>
    rintro B c pre X hB hpre ⟨rfl, d1, d2⟩ hD
    have e3 := d1.cell
    gi_wp2
    rw [Exit.noGoto_ret]
    refine ⟨by simp, .inl ⟨_, _, rfl, run_takeDeferred hD, ?_⟩⟩
    exact ⟨_, results_tmp rfl _ _ _, rfl, d2.trans ((Outside.putObj (B := 0) _ (Nat.le_refl _) hD rfl).below (by omega) d2.size)⟩
end Go.Proofs.YthlghokgknkpaaaGreatDoor
